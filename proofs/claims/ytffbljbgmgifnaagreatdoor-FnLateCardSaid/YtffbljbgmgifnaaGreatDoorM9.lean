/- Texts in one: Loi8, LoanMm, Ord, FavoriteSheetP, Loi9, Los4, Los5, PutL2. -/
import Derived.Test.YtffbljbgmgifnaaGreatDoorM7
import Derived.Test.YtffbljbgmgifnaaGreatDoorM8
import Derived.Test.YtffbljbgmgifnaaGreatDoorM4
import Derived.Test.YtffbljbgmgifnaaGreatDoorM3
import Derived.Test.YtffbljbgmgifnaaGreatDoorM2
import Derived.Laws.StructEq
import Derived.StillTailTactics
import Derived.Lib.Small
import Derived.Sort.Grow
import Derived.Deep.RegionHeld3
import Derived.Test.YtffbljbgmgifnaaGreatDoorM5
namespace Go.Proofs.YtffbljbgmgifnaaGreatDoor
open Go.RowKit

set_option maxHeartbeats 6400000 in
set_option maxRecDepth 100000 in
theorem implWhoHas_any (a : Option Addr) (len cap : Nat) (xs : List VLoan) (sh d : Int) (w : World) (h : IsLoanS w a len cap xs) (_ : xs.length ≤ 1048576) :
    Calls Tryz.prog 9 #[.slice a len cap, .int .i64 sh, .int .i64 d] w (WhoHas_Post xs sh d w) := by
  obtain rfl := h.1
  have S := Lib.hid h
  clear h
  obtain ⟨q1, h1⟩ : ∃ q, areLo xs = q := ⟨_, rfl⟩
  obtain ⟨q2, h2⟩ : ∃ q, idB sh = q := ⟨_, rfl⟩
  obtain ⟨q3, h3⟩ : ∃ q, dayB d = q := ⟨_, rfl⟩
  have E1 := Lib.hid (show WhoHas_1 xs sh d = (q1 && (q2 && q3)) from by unfold WhoHas_1; rw [h1, h2, h3])
  have E0 := Lib.hid (show WhoHas_0 xs sh d = if (q1 && (q2 && q3)) = true then whoL sh d xs else 0 from by unfold WhoHas_0; rw [E1.out])
  have H1 := Lib.hid h1
  have H2 := Lib.hid h2
  have H3 := Lib.hid h3
  clear h1 h2 h3
  go_enter Tryz.func9, Tryz.ntmps9
  go_wp2_with fail
  refine (areLoans_any _ _ _ xs _ S.out).mono ?_
  rintro e w1 ⟨rfl, hb⟩
  rw [H1.out]
  have B1 := Lib.hid hb
  have S1 := Lib.hid (S.out.below hb)
  clear hb
  cases q1
  · go_wp2
    go_ret2
    exact ⟨by rw [E0.out, E1.out]; rfl, B1.out⟩
  go_wp2_with fail
  refine (isLoanId_any _ _).mono ?_
  rintro e w2 ⟨rfl, hb⟩
  rw [H2.out]
  have B2 := Lib.hid (Below.then' B1.out hb)
  have S2 := Lib.hid (S1.out.below hb)
  clear hb
  cases q2
  · go_wp2
    go_ret2
    exact ⟨by rw [E0.out, E1.out]; rfl, B2.out⟩
  go_wp2_with fail
  refine (isDay_any _ _).mono ?_
  rintro e w3 ⟨rfl, hb⟩
  rw [H3.out]
  have B3 := Lib.hid (Below.then' B2.out hb)
  have S3 := Lib.hid (S2.out.below hb)
  clear hb
  cases q3
  · go_wp2
    go_ret2
    exact ⟨by rw [E0.out, E1.out]; rfl, B3.out⟩
  rcases firstOf_cases (fun b : VLoan => b.Sheet == sh && openOn d b) xs with ⟨hz, hno⟩ | ⟨i, s, hz, hs, hy, _⟩
  · have Z := Lib.hid hz
    have W0 := Lib.hid (whoL_none hno)
    clear hz hno
    go_wp2_with fail
    refine (indexOfOpen_any _ _ _ xs sh d _ S3.out).mono ?_
    rintro e w4 ⟨rfl, hb⟩
    rw [Z.out]
    have B4 := Lib.hid (Below.then' B3.out hb)
    clear hb
    go_wp2
    go_ret2
    exact ⟨by rw [E0.out, E1.out, W0.out]; rfl, B4.out⟩
  · have Z := Lib.hid hz
    have W0 := Lib.hid (whoL_some H1.out hs hy)
    have HS := Lib.hid hs
    have hil := (List.getElem?_eq_some_iff.1 hs).1
    have hi0 : (0 : Int) ≤ (i : Int) := by omega
    have hi00 : ¬ (i : Int) < 0 := by omega
    have hi1 : (i : Int) < (xs.length : Int) := by omega
    clear hz hs hy
    go_wp2_with fail
    refine (indexOfOpen_any _ _ _ xs sh d _ S3.out).mono ?_
    rintro e w4 ⟨rfl, hb⟩
    rw [Z.out]
    have B4 := Lib.hid (Below.then' B3.out hb)
    obtain ⟨b, o, rfl, _, hat⟩ := (S3.out.below hb).at (by omega)
    obtain ⟨c0, c1, c2, c3, c4⟩ := hat i s HS.out
    clear hb hat
    go_wp2
    go_ret2
    exact ⟨by rw [E0.out, E1.out, W0.out]; rfl, B4.out⟩
theorem days_moreP {xs : List VLoan} {sh d : Int} {k : Nat} {s : VLoan} (hs : xs[k]? = some s) : daysL sh d (xs.take (k + 1)) = daysL sh d (xs.take k) + lentD sh d s := by
  unfold daysL; rw [take_one hs, List.foldl_append]; rfl
theorem lentD_bdP {l : VLoan} (h : l.ok = true) {sh d : Int} (h0 : 0 ≤ d) (h1 : d ≤ 4000) : 0 ≤ lentD sh d l ∧ lentD sh d l ≤ 4000 := by
  have k := loOk_iff.1 h
  unfold lentD endL
  split
  · split <;> omega
  · omega
theorem days_bdP {xs : List VLoan} {sh d : Int} (h : areLo xs = true) (h0 : 0 ≤ d) (h1 : d ≤ 4000) : ∀ k, k ≤ xs.length → 0 ≤ daysL sh d (xs.take k) ∧ daysL sh d (xs.take k) ≤ 60000 := by
  have key : ∀ k, k ≤ xs.length → 0 ≤ daysL sh d (xs.take k) ∧ daysL sh d (xs.take k) ≤ 4000 * (k : Int) := by
    intro k
    induction k with
    | zero => intro _; simp [daysL]
    | succ k ih =>
      intro hk
      have hs : xs[k]? = some (xs[k]'(by omega)) := List.getElem?_eq_getElem _
      have b := lentD_bdP (areLo_ok h (List.mem_of_getElem? hs)) (sh := sh) h0 h1
      have c := ih (by omega)
      rw [days_moreP hs]
      omega
  intro k hk
  have hl := areLo_len h
  have := key k hk; omega
set_option maxHeartbeats 6400000 in
set_option maxRecDepth 100000 in
theorem implDaysLent_any (a : Option Addr) (len cap : Nat) (xs : List VLoan) (sh d : Int) (w : World) (h : IsLoanS w a len cap xs) (_ : xs.length ≤ 1048576) :
    Calls Tryz.prog 17 #[.slice a len cap, .int .i64 sh, .int .i64 d] w (DaysLent_Post xs sh d w) := by
  have hm := h.2.2.1
  have hcl := h.2.1
  unfold maxLen at hm
  obtain rfl := h.1
  have S := Lib.hid h
  clear h
  obtain ⟨q1, h1⟩ : ∃ q, areLo xs = q := ⟨_, rfl⟩
  obtain ⟨q2, h2⟩ : ∃ q, idB sh = q := ⟨_, rfl⟩
  obtain ⟨q3, h3⟩ : ∃ q, dayB d = q := ⟨_, rfl⟩
  have E1 := Lib.hid (show DaysLent_1 xs sh d = (q1 && (q2 && q3)) from by unfold DaysLent_1; rw [h1, h2, h3])
  have E0 := Lib.hid (show DaysLent_0 xs sh d = if (q1 && (q2 && q3)) = true then daysL sh d xs else 0 from by unfold DaysLent_0; rw [E1.out])
  have H1 := Lib.hid h1
  have H2 := Lib.hid h2
  have H3 := Lib.hid h3
  clear h1 h2 h3
  go_enter Tryz.func17, Tryz.ntmps17
  go_wp2_with fail
  refine (areLoans_any _ _ _ xs _ S.out).mono ?_
  rintro e w1 ⟨rfl, hb⟩
  rw [H1.out]
  have B1 := Lib.hid hb
  clear hb
  cases q1
  · go_wp2
    go_ret2
    exact ⟨by rw [E0.out, E1.out]; rfl, B1.out⟩
  go_wp2_with fail
  refine (isLoanId_any _ _).mono ?_
  rintro e w2 ⟨rfl, hb⟩
  rw [H2.out]
  have B2 := Lib.hid (Below.then' B1.out hb)
  clear hb
  cases q2
  · go_wp2
    go_ret2
    exact ⟨by rw [E0.out, E1.out]; rfl, B2.out⟩
  go_wp2_with fail
  refine (isDay_any _ _).mono ?_
  rintro e w3 ⟨rfl, hb⟩
  rw [H3.out]
  have B3 := Lib.hid (Below.then' B2.out hb)
  clear hb
  cases q3
  · go_wp2
    go_ret2
    exact ⟨by rw [E0.out, E1.out]; rfl, B3.out⟩
  have L15 := areLo_len H1.out
  have hd' : 0 ≤ d ∧ d ≤ 4000 := inB_iff.1 H3.out
  go_wp2
  go_loopw [26, 8] (fun i v wr => ∃ k : Nat, k ≤ xs.length ∧ i = .int .i64 k ∧ v = .int .i64 (daysL sh d (xs.take k)) ∧ Below w.heap.size w wr) (fun i _ _ => xs.length - (intOf i).toNat)
  case atStart => exact ⟨0, Nat.zero_le _, rfl, rfl, B3.out⟩
  case round =>
    obtain ⟨k, hk, rfl, rfl, hbel⟩ := hrel
    have B := Lib.hid hbel
    by_cases hlt : k < xs.length
    · obtain ⟨s, hs⟩ : ∃ s, xs[k]? = some s := ⟨xs[k]'hlt, List.getElem?_eq_getElem _⟩
      obtain ⟨b, o, rfl, hbw, hat⟩ := (S.out.below hbel).at (by omega)
      obtain ⟨c0, c1, c2, c3, c4⟩ := hat k s hs
      have OK := Lib.hid (areLo_ok H1.out (List.mem_of_getElem? hs))
      have ok := loOk_iff.1 OK.out
      have hi0 : (0 : Int) ≤ (k : Int) := by omega
      have hi1 : (k : Int) < (xs.length : Int) := by omega
      have NX := Lib.hid (days_moreP (sh := sh) (d := d) hs)
      have bd := days_bdP (sh := sh) (xs := xs) (d := d) H1.out hd'.1 hd'.2 k hk
      have X := Lib.hid (BoxLoan.new wr 43 s _ rfl)
      have BX := Lib.hid (Below.then' B.out (bel_al1 wr (.cells #[.int .i64 s.Sheet, .int .i64 s.Reader, .int .i64 s.Out, .int .i64 s.Due, .int .i64 s.Back] 43)))
      obtain ⟨z, hz⟩ : ∃ z, daysL sh d (xs.take k) = z := ⟨_, rfl⟩
      rw [hz] at NX bd ⊢
      clear hs hat hbel hz
      by_cases hr : s.Sheet = sh
      · have r1 : (s.Sheet == sh) = true := by simp [hr]
        have R1 := Lib.hid hr
        clear hr
        by_cases hod : s.Out ≤ d
        · have LD := Lib.hid (show lentD sh d s = endL s d - s.Out from by unfold lentD; rw [if_pos ⟨R1.out, hod⟩])
          have eb : 0 ≤ endL s d ∧ endL s d ≤ 4000 := by unfold endL; split <;> omega
          obtain ⟨e, he⟩ : ∃ e, endL s d = e := ⟨_, rfl⟩
          have HE := Lib.hid he
          rw [he] at LD eb
          have v1 : IntKind.i64.wrap (e - s.Out) = e - s.Out := IntWalk.i64_in _ (by omega)
          have v2 : IntKind.i64.wrap (z + (e - s.Out)) = z + (e - s.Out) := IntWalk.i64_in _ (by omega)
          have V1 := Lib.hid v1
          have V2 := Lib.hid v2
          have OD := Lib.hid (decide_eq_true hod)
          clear he v1 v2 ok bd eb
          go_wp2
          refine wp_world (fun W => BoxLoan W wr.heap.size s ∧ Below w.heap.size w W) ⟨X.out, BX.out⟩ ?_
          clear c0 c1 c2 c3 c4
          rintro W ⟨⟨e0, e1, e2, e3, e4⟩, hbw2⟩
          have BW := Lib.hid hbw2
          have k0 := cell_regrown e0
          have k1 := cell_regrown e1
          have k2 := cell_regrown e2
          have k3 := cell_regrown e3
          have k4 := cell_regrown e4
          have v1 := V1.out
          have v2 := V2.out
          have cQ := below_at (W := W) (fun W' _ => HE.out ▸ endBy_any s d W' OK.out)
          clear hbw2 e0 e1 e2 e3 e4
          refine wp_region_quiet_below (by kernel_rfl) (by kernel_rfl) ?_
          repeat (first | go_big_quiet_step (with_reducible exact cQ _ _) | quiet_step (with_reducible exact cQ _ _))
          refine wpQuiet_nil ?_
          intro W2 hw2
          have B4 := Lib.hid (Below.then' BW.out (below_of_re hw2))
          clear hw2 k0 k1 k2 k3 k4 cQ
          go_wp2
          go_roundw
          case rel => exact ⟨k + 1, by omega, by go_num, by rw [NX.out, LD.out], B4.out⟩
          case measure => simp [intOf]; omega
        · have LD := Lib.hid (show lentD sh d s = 0 from by unfold lentD; rw [if_neg (fun h => hod h.2)])
          have od : decide (s.Out ≤ d) = false := decide_eq_false hod
          go_wp2
          go_roundw
          case rel => exact ⟨k + 1, by omega, by go_num, by rw [NX.out, LD.out, Int.add_zero], BX.out⟩
          case measure => simp [intOf]; omega
      · have r1 : (s.Sheet == sh) = false := by simp [hr]
        have LD := Lib.hid (show lentD sh d s = 0 from by unfold lentD; rw [if_neg (fun h => hr h.1)])
        clear hr
        go_wp2
        go_roundw
        case rel => exact ⟨k + 1, by omega, by go_num, by rw [NX.out, LD.out, Int.add_zero], BX.out⟩
        case measure => simp [intOf]; omega
    · obtain rfl : k = xs.length := by omega
      have T := Lib.hid (show xs.take xs.length = xs from List.take_of_length_le (Nat.le_refl _))
      rw [T.out]
      obtain ⟨z, hz⟩ : ∃ z, daysL sh d xs = z := ⟨_, rfl⟩
      rw [hz] at E0 ⊢
      clear hbel hz
      go_wp2
      go_ret2
      exact ⟨by rw [E0.out, E1.out]; rfl, B.out⟩
end Go.Proofs.YtffbljbgmgifnaaGreatDoor
namespace Go.Proofs.YtffbljbgmgifnaaGreatDoor
open Go.RowKit
def zeroLoan : VLoan := ⟨0, 0, 0, 0, 0⟩
set_option maxHeartbeats 6400000 in
set_option maxRecDepth 100000 in
theorem maxFuncLoan_any (K : FuncId) (caps : Array Value) (cf : VLoan → VLoan → Int) (a : Option Addr) (len cap : Nat) (ys : List VLoan) (w : World) (h : IsLoanS w a len cap ys) (h0 : 0 < len)
    (hcall : ∀ args W, (callFunc K args).run Tryz.prog W = .ok (.enter K args) W)
    (hf : ∀ W x m, x ∈ ys → m ∈ ys → Below w.heap.size w W → Calls Tryz.prog K (#[.agg #[.int .i64 x.Sheet, .int .i64 x.Reader, .int .i64 x.Out, .int .i64 x.Due, .int .i64 x.Back], .agg #[.int .i64 m.Sheet, .int .i64 m.Reader, .int .i64 m.Out, .int .i64 m.Due, .int .i64 m.Back]] ++ caps) W fun e w' => e = .returned (.int .i64 (cf x m)) ∧ Below W.heap.size W w') :
    Calls Tryz.prog 53 #[.slice a len cap, .func (.func K) #[] caps] w fun e w' => (∃ s, s = pickB (fun x m => decide (0 < cf x m)) zeroLoan ys ∧ e = .returned (.agg #[.int .i64 s.Sheet, .int .i64 s.Reader, .int .i64 s.Out, .int .i64 s.Due, .int .i64 s.Back])) ∧ Below w.heap.size w w' := by
  have hm := h.2.2.1
  have hcl := h.2.1
  unfold maxLen at hm
  have S := Lib.hid h
  have L := Lib.hid h.1
  have F := Lib.hid hf
  obtain ⟨b, o, rfl, hb0, hat0⟩ := h.at h0
  obtain ⟨s0, hs0⟩ := list_atLoan L h0
  have AT := Lib.hid (hat0 0 s0 hs0)
  have X0 := Lib.hid hs0
  have Z0 := Lib.hid ((HBLoan.new w zeroLoan _ rfl).alloc (.cells #[.int .i64 s0.Sheet, .int .i64 s0.Reader, .int .i64 s0.Out, .int .i64 s0.Due, .int .i64 s0.Back] 43))
  have Z1 := Lib.hid (HBLoan.new (w.alloc (.cells #[.int .i64 zeroLoan.Sheet, .int .i64 zeroLoan.Reader, .int .i64 zeroLoan.Out, .int .i64 zeroLoan.Due, .int .i64 zeroLoan.Back] 43)) s0 (w.heap.size + 1) (size_al _ _))
  have B0 := Lib.hid (bel_al2 w (.cells #[.int .i64 zeroLoan.Sheet, .int .i64 zeroLoan.Reader, .int .i64 zeroLoan.Out, .int .i64 zeroLoan.Due, .int .i64 zeroLoan.Back] 43) (.cells #[.int .i64 s0.Sheet, .int .i64 s0.Reader, .int .i64 s0.Out, .int .i64 s0.Due, .int .i64 s0.Back] 43))
  obtain ⟨c0, c1, c2, c3, c4⟩ := (AT.out).below (bel_al1 w (.cells #[.int .i64 0, .int .i64 0, .int .i64 0, .int .i64 0, .int .i64 0] 43)) hb0
  have hl1 : ¬ (len : Int) < 1 := by omega
  have hl2 : (0 : Int) < (len : Int) := by omega
  simp only [Nat.zero_mul, Nat.add_zero] at c0 c1 c2 c3 c4
  obtain ⟨P, hP⟩ : ∃ P, (fun x m => decide (0 < cf x m)) = P := ⟨_, rfl⟩
  rw [hP]
  have HP := Lib.hid (show ∀ x m, decide (0 < cf x m) = P x m from fun x m => by rw [← hP])
  clear h hf hat0 hs0 hP
  go_enter Tryz.func53, Tryz.ntmps53
  go_wp2
  go_loopw [6] (fun i wr => ∃ k : Nat, 0 < k ∧ k ≤ len ∧ i = .int .i64 k ∧ HBLoan wr w.heap.size zeroLoan ∧ HBLoan wr (w.heap.size + 1) (pickB P zeroLoan (ys.take k)) ∧ Below w.heap.size w wr) (fun i _ => len - (intOf i).toNat)
  case atStart => exact ⟨1, by omega, by omega, rfl, Z0.out, by rw [take_one (k := 0) X0.out]; exact Z1.out, B0.out⟩
  case round =>
    obtain ⟨k, hk0, hk, rfl, hz0, hz1, hbel⟩ := hrel
    have BR := Lib.hid hbel
    have H0 := Lib.hid hz0
    have H1 := Lib.hid hz1
    clear c0 c1 c2 c3 c4
    by_cases hlt : k < len
    · obtain ⟨x, hx⟩ := list_atLoan L hlt
      obtain ⟨b', o', e', hb, hat⟩ := (S.out.below hbel).at (by omega)
      cases e'
      obtain ⟨c0, c1, c2, c3, c4⟩ := hat k x hx
      have AX := Lib.hid (hat k x hx)
      have hi0 : (0 : Int) ≤ (k : Int) := by omega
      have hi1 : (k : Int) < (len : Int) := by omega
      have PT := Lib.hid (pickB_take P zeroLoan hk0 hx)
      have MX := Lib.hid (List.mem_of_getElem? hx)
      have MM := Lib.hid (List.mem_of_mem_take (pickB_mem P zeroLoan (ys := ys) k hk0 (by have := L.out; omega)))
      obtain ⟨m, hm⟩ : ∃ m, pickB P zeroLoan (ys.take k) = m := ⟨_, rfl⟩
      rw [hm] at H1 PT MM
      obtain ⟨d0, d1, d2, d3, d4⟩ := H1.out.cells
      have PX := Lib.hid (HP.out x m)
      obtain ⟨v, hv⟩ : ∃ v, cf x m = v := ⟨_, rfl⟩
      rw [hv] at PX
      have VV := Lib.hid hv
      clear hbel hz0 hz1 hat hx hm hv
      go_wp2_with fail
      go_still_tail 6, (by kernel_rfl)
      change wpList _ _ _ _ _ wr.drew
      go_wp2_with fail
      refine (F.out wr.drew x m MX.out MM.out (bel_drew' BR.out)).mono ?_
      rintro e w1 ⟨rfl, hb1⟩
      rw [VV.out]
      have B1 := Lib.hid (Below.then' (bel_drew' BR.out) hb1)
      have Y1 := H1.out.drew.below hb1
      have Y0 := Lib.hid (H0.out.drew.below hb1)
      have hbx : Below wr.heap.size wr w1 := Below.then' (bel_drew' (Below.refl _ _)) hb1
      have A1 := Lib.hid (AX.out.below hbx hb)
      have Y2 := Lib.hid Y1
      clear c0 c1 c2 c3 c4 d0 d1 d2 d3 d4 hb1 hbx
      by_cases hvn : 0 < v
      · have PY := Lib.hid (show pickB P zeroLoan (ys.take (k + 1)) = x by rw [PT.out, ← PX.out, decide_eq_true hvn]; rfl)
        obtain ⟨c0, c1, c2, c3, c4⟩ := A1.out
        have e0 := Y1.free 0
        have e1 := Y1.free 1
        have e2 := Y1.free 2
        have e3 := Y1.free 3
        have e4 := Y1.free 4
        obtain ⟨f0, f1, f2, f3, f4⟩ := Y1.cells
        clear Y1
        go_wp2
        go_roundw
        case rel => exact ⟨k + 1, by omega, by omega, by go_num, Y0.out.otherAll (by omega) _ _ _ _ _, by rw [PY.out]; exact Y2.out.setAll x, (((((B1.out).setCell (by simp) _).setCell (by simp) _).setCell (by simp) _).setCell (by simp) _).setCell (by simp) _⟩
        case measure => simp [intOf]; omega
      · have PY := Lib.hid (show pickB P zeroLoan (ys.take (k + 1)) = m by rw [PT.out, ← PX.out, decide_eq_false hvn]; rfl)
        clear Y1
        go_wp2
        go_roundw
        case rel => exact ⟨k + 1, by omega, by omega, by go_num, Y0.out, by rw [PY.out]; exact Y2.out, B1.out⟩
        case measure => simp [intOf]; omega
    · obtain rfl : k = len := by omega
      have E : ys.take k = ys := List.take_of_length_le (by have := L.out; omega)
      rw [E] at H1
      obtain ⟨r, hr⟩ : ∃ r, pickB P zeroLoan ys = r := ⟨_, rfl⟩
      rw [hr] at H1
      have R := Lib.hid hr
      clear hbel hz0 hz1 E hr
      obtain ⟨d0, d1, d2, d3, d4⟩ := H1.out.cells
      have ZW := Lib.hid (H0.out.setAll r)
      obtain ⟨z0, z1, z2, z3, z4⟩ := H0.out.cells
      have f0 := H0.out.free 0
      have f1 := H0.out.free 1
      have f2 := H0.out.free 2
      have f3 := H0.out.free 3
      have f4 := H0.out.free 4
      go_wp2
      refine bodyPost_ret (resultsLoan1 rfl rfl ZW.out) rfl ⟨⟨r, R.out.symm, rfl⟩, ?_⟩
      exact (((((BR.out).setCell (by simp) _).setCell (by simp) _).setCell (by simp) _).setCell (by simp) _).setCell (by simp) _
end Go.Proofs.YtffbljbgmgifnaaGreatDoor
namespace Go.Proofs.YtffbljbgmgifnaaGreatDoor
open Go.RowKit

theorem isNaN_any (x : Int) (w : World) : Calls Tryz.prog 78 #[.int .i64 x] w fun e w' => e = .returned (.bool false) ∧ w = w' := by
  go_enter Tryz.func78, Tryz.ntmps78
  go_wp2
  go_ret
  exact ⟨by first | rfl | simp, rfl⟩
set_option maxHeartbeats 800000 in
theorem compare_any (x y : Int) (w : World) : Calls Tryz.prog 56 #[.int .i64 x, .int .i64 y] w fun e w' => e = .returned (.int .i64 (Lib.compareInt x y)) ∧ w = w' := by
  by_cases h1 : x < y
  · go_enter Tryz.func56, Tryz.ntmps56
    go_wp2_with (go_at_call 78; refine (isNaN_any _ _).mono ?_; rintro e w' ⟨rfl, rfl⟩)
    go_ret
    exact ⟨ret_int (by unfold Lib.compareInt; rw [if_pos h1]), rfl⟩
  · by_cases h2 : y < x
    · go_enter Tryz.func56, Tryz.ntmps56
      go_wp2_with (go_at_call 78; refine (isNaN_any _ _).mono ?_; rintro e w' ⟨rfl, rfl⟩)
      go_ret
      exact ⟨ret_int (by unfold Lib.compareInt; rw [if_neg (by omega), if_pos (by omega)]), rfl⟩
    · go_enter Tryz.func56, Tryz.ntmps56
      go_wp2_with (go_at_call 78; refine (isNaN_any _ _).mono ?_; rintro e w' ⟨rfl, rfl⟩)
      go_ret
      exact ⟨ret_int (by unfold Lib.compareInt; rw [if_neg (by omega), if_neg (by omega)]), rfl⟩
set_option maxHeartbeats 800000 in
theorem or_any (b c : Nat) (x y : Int) (w : World) (h0 : w.cell? ⟨b, 0, none⟩ = some (.int .i64 x)) (h1 : w.cell? ⟨b, 1, none⟩ = some (.int .i64 y)) :
    Calls Tryz.prog 55 #[.slice (some ⟨b, 0, none⟩) 2 c] w fun e w' => e = .returned (.int .i64 (if x = 0 then y else x)) ∧ w = w' := by
  have C0 := Lib.hid h0
  have C1 := Lib.hid h1
  clear h0 h1
  go_enter Tryz.func55, Tryz.ntmps55
  go_wp2
  go_loop [8, 5] (fun i _ => ∃ k : Nat, k ≤ 2 ∧ i = .int .i64 k ∧ (1 ≤ k → x = 0) ∧ (2 ≤ k → y = 0)) (fun i _ => 2 - (intOf i).toNat)
  case atStart => exact ⟨0, by omega, rfl, by omega, by omega⟩
  case round =>
    obtain ⟨k, hk, rfl, h2, h3⟩ := hrel
    have hk3 : k = 0 ∨ k = 1 ∨ k = 2 := by omega
    rcases hk3 with rfl | rfl | rfl
    · have c0 := C0.out
      by_cases hx : x = 0
      · subst hx
        go_wp2
        go_round
        case rel => exact ⟨1, by omega, rfl, by simp, by omega⟩
        case measure => simp [intOf]
      · have hx1 : (x != 0) = true := by simpa using hx
        have HX := Lib.hid hx
        clear hx
        go_wp2
        go_ret
        exact ⟨ret_int (by have := HX.out; simp), rfl⟩
    · have c1 := C1.out
      obtain rfl : x = 0 := h2 (by omega)
      clear h2
      by_cases hy : y = 0
      · subst hy
        go_wp2
        go_round
        case rel => exact ⟨2, by omega, rfl, by simp, by simp⟩
        case measure => simp [intOf]
      · have hy1 : (y != 0) = true := by simpa using hy
        go_wp2
        go_ret
        exact ⟨ret_int (by simp), rfl⟩
    · obtain rfl : x = 0 := h2 (by omega)
      obtain rfl : y = 0 := h3 (by omega)
      clear h2 h3
      go_wp2
      go_ret
      exact ⟨ret_int (by simp), rfl⟩

theorem or_new (W : World) (x y : Int) (t : TypeId) (B : Nat) (hB : W.heap.size = B) :
    Calls Tryz.prog 55 #[.slice (some ⟨B, 0, none⟩) 2 2] (W.alloc (.cells #[.int .i64 x, .int .i64 y] t)).drew fun e w' => e = .returned (.int .i64 (if x = 0 then y else x)) ∧ (W.alloc (.cells #[.int .i64 x, .int .i64 y] t)).drew = w' :=
  or_any B 2 x y _ (lit2 W x y t B hB 0 x rfl) (lit2 W x y t B hB 1 y rfl)
theorem grown2 (w : World) (o1 o2 : Obj) : ∃ os, (w.alloc o1).alloc o2 = Sort.grow w os := ⟨#[o1] ++ #[o2], by rw [Sort.alloc_eq_grow, Sort.alloc_eq_grow, Sort.grow_grow]⟩
end Go.Proofs.YtffbljbgmgifnaaGreatDoor
namespace Go.Proofs.YtffbljbgmgifnaaGreatDoor
open Go.RowKit
def FavoriteSheet_Post (z0 : List VLoan) (w : World) (e : Ending) (w' : World) : Prop :=
  e = .returned (.tuple #[.int .i64 (FavoriteSheet_0 z0), .bool (FavoriteSheet_1 z0)]) ∧ Below w.heap.size w w'
end Go.Proofs.YtffbljbgmgifnaaGreatDoor
namespace Go.Proofs.YtffbljbgmgifnaaGreatDoor
open Go.RowKit

theorem times_moreP {xs : List VLoan} {sh : Int} {k : Nat} {s : VLoan} (hs : xs[k]? = some s) : timesL (xs.take (k + 1)) sh = timesL (xs.take k) sh + if s.Sheet = sh then 1 else 0 := by
  unfold timesL
  rw [take_one hs, List.filter_append, List.length_append]
  by_cases e : s.Sheet = sh
  · simp [e]
  · simp [e]
theorem times_bdP (ys : List VLoan) (sh : Int) : 0 ≤ timesL ys sh ∧ timesL ys sh ≤ (ys.length : Int) := by
  unfold timesL
  have := List.length_filter_le (fun l : VLoan => l.Sheet == sh) ys
  omega
theorem timesLent_any (a : Option Addr) (len cap : Nat) (xs : List VLoan) (sh : Int) (w : World) (h : IsLoanS w a len cap xs) :
    Calls Tryz.prog 57 #[.slice a len cap, .int .i64 sh] w fun e w' => e = .returned (.int .i64 (timesL xs sh)) ∧ Below w.heap.size w w' := by
  have hm := h.2.2.1
  have hcl := h.2.1
  unfold maxLen at hm
  obtain rfl := h.1
  have S := Lib.hid h
  clear h
  go_enter Tryz.func57, Tryz.ntmps57
  go_wp2
  go_loopw [10, 5] (fun i v wr => ∃ k : Nat, k ≤ xs.length ∧ i = .int .i64 k ∧ v = .int .i64 (timesL (xs.take k) sh) ∧ Below w.heap.size w wr) (fun i _ _ => xs.length - (intOf i).toNat)
  case atStart => exact ⟨0, Nat.zero_le _, rfl, rfl, Below.refl _ _⟩
  case round =>
    obtain ⟨k, hk, rfl, rfl, hbel⟩ := hrel
    have B := Lib.hid hbel
    by_cases hlt : k < xs.length
    · obtain ⟨s, hs⟩ : ∃ s, xs[k]? = some s := ⟨xs[k]'hlt, List.getElem?_eq_getElem _⟩
      obtain ⟨b, o, rfl, hbw, hat⟩ := (S.out.below hbel).at (by omega)
      obtain ⟨c0, c1, c2, c3, c4⟩ := hat k s hs
      have hi0 : (0 : Int) ≤ (k : Int) := by omega
      have hi1 : (k : Int) < (xs.length : Int) := by omega
      have NX := Lib.hid (times_moreP (sh := sh) hs)
      have bd := times_bdP (xs.take k) sh
      have lt : (xs.take k).length ≤ k := List.length_take_le _ _
      have BX := Lib.hid (Below.then' B.out (bel_al1 wr (.cells #[.int .i64 s.Sheet, .int .i64 s.Reader, .int .i64 s.Out, .int .i64 s.Due, .int .i64 s.Back] 43)))
      obtain ⟨z, hz⟩ : ∃ z, timesL (xs.take k) sh = z := ⟨_, rfl⟩
      rw [hz] at NX bd ⊢
      have v1 : IntKind.i64.wrap (z + 1) = z + 1 := IntWalk.i64_in _ (by omega)
      clear hs hat hbel hz bd lt
      by_cases hr : s.Sheet = sh
      · have r1 : (s.Sheet == sh) = true := by simp [hr]
        have R1 := Lib.hid hr
        clear hr
        go_wp2
        go_roundw
        case rel => exact ⟨k + 1, by omega, by go_num, by rw [NX.out, if_pos R1.out], BX.out⟩
        case measure => simp [intOf]; omega
      · have r1 : (s.Sheet == sh) = false := by simp [hr]
        have R1 := Lib.hid hr
        clear hr
        go_wp2
        go_roundw
        case rel => exact ⟨k + 1, by omega, by go_num, by rw [NX.out, if_neg R1.out, Int.add_zero], BX.out⟩
        case measure => simp [intOf]; omega
    · obtain rfl : k = xs.length := by omega
      have T := Lib.hid (show xs.take xs.length = xs from List.take_of_length_le (Nat.le_refl _))
      rw [T.out]
      clear hbel
      go_wp2
      go_ret
      exact ⟨rfl, B.out⟩
def orI (x y : Int) : Int := if x = 0 then y else x
theorem orI_any (b c : Nat) (x y : Int) (w : World) (h0 : w.cell? ⟨b, 0, none⟩ = some (.int .i64 x)) (h1 : w.cell? ⟨b, 1, none⟩ = some (.int .i64 y)) :
    Calls Tryz.prog 55 #[.slice (some ⟨b, 0, none⟩) 2 c] w fun e w' => e = .returned (.int .i64 (orI x y)) ∧ w = w' := or_any b c x y w h0 h1
def favC (xs : List VLoan) (x m : VLoan) : Int := orI (Lib.compareInt (timesL xs x.Sheet) (timesL xs m.Sheet)) (Lib.compareInt m.Sheet x.Sheet)
theorem favC_pos (xs : List VLoan) : (fun x m => decide (0 < favC xs x m)) = favB xs := by
  funext x m
  unfold favC orI favB Lib.compareInt
  rw [Bool.eq_iff_iff]
  simp only [decide_eq_true_eq, Bool.or_eq_true, Bool.and_eq_true]
  split <;> split <;> (try split) <;> (try split) <;> omega
theorem two_cells (u : World) (x y : Int) (t : TypeId) : (u.alloc (.cells #[.int .i64 x, .int .i64 y] t)).cell? ⟨u.heap.size, 0, none⟩ = some (.int .i64 x) ∧ (u.alloc (.cells #[.int .i64 x, .int .i64 y] t)).cell? ⟨u.heap.size, 1, none⟩ = some (.int .i64 y) := by
  constructor <;> simp
set_option maxHeartbeats 12800000 in
set_option maxRecDepth 100000 in
theorem favCmp_any (a : Option Addr) (len cap : Nat) (xs : List VLoan) (x m : VLoan) (bl : Nat) (w : World) (h : IsLoanS w a len cap xs) (hl : w.cell? ⟨bl, 0, none⟩ = some (.slice a len cap)) :
    Calls Tryz.prog 54 #[.agg #[.int .i64 x.Sheet, .int .i64 x.Reader, .int .i64 x.Out, .int .i64 x.Due, .int .i64 x.Back], .agg #[.int .i64 m.Sheet, .int .i64 m.Reader, .int .i64 m.Out, .int .i64 m.Due, .int .i64 m.Back], .pointer (some ⟨bl, 0, none⟩)] w fun e w' => e = .returned (.int .i64 (favC xs x m)) ∧ Below w.heap.size w w' := by
  have B0 := Lib.hid (bel_al2 w (.cells #[.int .i64 x.Sheet, .int .i64 x.Reader, .int .i64 x.Out, .int .i64 x.Due, .int .i64 x.Back] 43) (.cells #[.int .i64 m.Sheet, .int .i64 m.Reader, .int .i64 m.Out, .int .i64 m.Due, .int .i64 m.Back] 43))
  have X1 := Lib.hid ((BoxLoan.new w 43 x _ rfl).below (bel_al1 _ (.cells #[.int .i64 m.Sheet, .int .i64 m.Reader, .int .i64 m.Out, .int .i64 m.Due, .int .i64 m.Back] 43)))
  have X2 := Lib.hid (BoxLoan.new (w.alloc (.cells #[.int .i64 x.Sheet, .int .i64 x.Reader, .int .i64 x.Out, .int .i64 x.Due, .int .i64 x.Back] 43)) 43 m _ (size_al _ _))
  have CL := Lib.hid (cell_stay' hl B0.out)
  have S0 := Lib.hid (h.below B0.out)
  clear hl h
  go_enter Tryz.func54, Tryz.ntmps54
  go_wp2
  refine wp_world (fun W => Below w.heap.size w W ∧ W.cell? ⟨bl, 0, none⟩ = some (.slice a len cap) ∧ W.cell? ⟨w.heap.size, 0, none⟩ = some (.int .i64 x.Sheet) ∧ W.cell? ⟨w.heap.size + 1, 0, none⟩ = some (.int .i64 m.Sheet) ∧ IsLoanS W a len cap xs) ⟨B0.out, CL.out, X1.out.1, X2.out.1, S0.out⟩ ?_
  rintro W ⟨hw, c0, c1, c2, hS⟩
  have HW := Lib.hid hw
  have SS := Lib.hid hS
  have KD := Lib.hid (show Below W.heap.size W W.drew ∧ W.drew.cell? ⟨bl, 0, none⟩ = some (.slice a len cap) ∧ W.drew.cell? ⟨w.heap.size, 0, none⟩ = some (.int .i64 x.Sheet) ∧ W.drew.cell? ⟨w.heap.size + 1, 0, none⟩ = some (.int .i64 m.Sheet) from ⟨bel_drew' (Below.refl _ _), c0, c1, c2⟩)
  have KP := Lib.hid (show ∀ u v : World, (Below W.heap.size W u ∧ u.cell? ⟨bl, 0, none⟩ = some (.slice a len cap) ∧ u.cell? ⟨w.heap.size, 0, none⟩ = some (.int .i64 x.Sheet) ∧ u.cell? ⟨w.heap.size + 1, 0, none⟩ = some (.int .i64 m.Sheet)) → Below u.heap.size u v → (Below W.heap.size W v ∧ v.cell? ⟨bl, 0, none⟩ = some (.slice a len cap) ∧ v.cell? ⟨w.heap.size, 0, none⟩ = some (.int .i64 x.Sheet) ∧ v.cell? ⟨w.heap.size + 1, 0, none⟩ = some (.int .i64 m.Sheet)) from
    fun u v ⟨k0, k1, k2, k3⟩ hb => ⟨Below.then' k0 hb, cell_stay' k1 hb, cell_stay' k2 hb, cell_stay' k3 hb⟩)
  have KI := Lib.hid (show ∀ u : World, (Below W.heap.size W u ∧ u.cell? ⟨bl, 0, none⟩ = some (.slice a len cap) ∧ u.cell? ⟨w.heap.size, 0, none⟩ = some (.int .i64 x.Sheet) ∧ u.cell? ⟨w.heap.size + 1, 0, none⟩ = some (.int .i64 m.Sheet)) → ∀ sh, Calls Tryz.prog 57 #[.slice a len cap, .int .i64 sh] u fun e w' => e = .returned (.int .i64 (timesL xs sh)) ∧ Below u.heap.size u w' from fun u hu sh => timesLent_any _ _ _ xs sh _ (SS.out.below hu.1))
  clear hw hS c0 c1 c2
  go_region_held3 (fun u => Below W.heap.size W u ∧ u.cell? ⟨bl, 0, none⟩ = some (.slice a len cap) ∧ u.cell? ⟨w.heap.size, 0, none⟩ = some (.int .i64 x.Sheet) ∧ u.cell? ⟨w.heap.size + 1, 0, none⟩ = some (.int .i64 m.Sheet))
    (first | exact KD.out | exact KP.out _ _ (by assumption) (by assumption) | exact KP.out _ _ (by assumption) (bel_al1 _ _) | exact KP.out _ _ (by assumption) (Below.refl _ _))
    (first | (go_at_call 55; refine (orI_any _ _ _ _ _ (two_cells _ _ _ _).1 (two_cells _ _ _ _).2).mono ?_; rintro e w' ⟨rfl, rfl⟩) | (go_at_call 56; refine (compare_any _ _ _).mono ?_; rintro e w' ⟨rfl, rfl⟩) | (go_at_call 57; refine (KI.out _ (by assumption) _).mono ?_; rintro e w' ⟨rfl, hb⟩))
  rename_i HH
  have HBT := Lib.hid (Below.then' HW.out HH.1)
  go_wp2
  go_ret
  exact ⟨rfl, HBT.out⟩
set_option maxHeartbeats 6400000 in
set_option maxRecDepth 100000 in
theorem implFavoriteSheet_any (a : Option Addr) (len cap : Nat) (xs : List VLoan) (w : World) (h : IsLoanS w a len cap xs) (_ : xs.length ≤ 1048576) :
    Calls Tryz.prog 19 #[.slice a len cap] w (FavoriteSheet_Post xs w) := by
  have hm := h.2.2.1
  have hcl := h.2.1
  unfold maxLen at hm
  obtain rfl := h.1
  have C0 := Lib.hid (cell_box' w (.slice a xs.length cap) 24 _ rfl)
  have B0 := Lib.hid (wh_al1 w (.cells #[.slice a xs.length cap] 24))
  have S := Lib.hid (h.below B0.out)
  clear h
  obtain ⟨q, hq⟩ : ∃ q, areLo xs = q := ⟨_, rfl⟩
  have Q := Lib.hid hq
  clear hq
  by_cases h0 : xs = []
  · subst h0
    have E := Lib.hid (show FavoriteSheet_1 ([] : List VLoan) = false from by unfold FavoriteSheet_1; simp)
    go_enter Tryz.func19, Tryz.ntmps19
    go_wp2_with fail
    refine (areLoans_any _ _ _ [] _ S.out).mono ?_
    rintro e w1 ⟨rfl, hb⟩
    rw [Q.out]
    have B1 := Lib.hid (Below.then' B0.out hb)
    have c1 := cell_stay' C0.out hb
    clear hb
    cases q
    · go_wp2
      go_ret2
      exact ⟨by unfold FavoriteSheet_0; rw [E.out]; rfl, B1.out⟩
    · go_wp2
      go_ret2
      exact ⟨by unfold FavoriteSheet_0; rw [E.out]; rfl, B1.out⟩
  have hp : 0 < xs.length := by cases xs with | nil => exact absurd rfl h0 | cons => simp
  have hp2 : ¬ xs.length = 0 := by omega
  have hp3 : ((xs.length : Int) == 0) = false := by simp; exact h0
  go_enter Tryz.func19, Tryz.ntmps19
  go_wp2_with fail
  refine (areLoans_any _ _ _ xs _ S.out).mono ?_
  rintro e w1 ⟨rfl, hb⟩
  rw [Q.out]
  have B1 := Lib.hid (Below.then' B0.out hb)
  have C1 := Lib.hid (cell_stay' C0.out hb)
  have S1 := Lib.hid (S.out.below hb)
  have c1 := C1.out
  clear hb
  cases q
  · have E := Lib.hid (show FavoriteSheet_1 xs = false from by unfold FavoriteSheet_1; rw [Q.out]; rfl)
    go_wp2
    go_ret2
    exact ⟨by unfold FavoriteSheet_0; rw [E.out]; rfl, B1.out⟩
  have E := Lib.hid (show FavoriteSheet_1 xs = true from by unfold FavoriteSheet_1; rw [Q.out, decide_eq_true hp]; rfl)
  go_wp2_with fail
  refine (maxFuncLoan_any 54 #[.pointer (some ⟨w.heap.size, 0, none⟩)] (favC xs) _ _ _ xs _ S1.out hp (enters_fn' Tryz.func54 (by kernel_rfl) (by kernel_rfl)) (fun W x m hx hm hW => by
    have h1 := favCmp_any a xs.length cap xs x m w.heap.size W (S1.out.below hW) (cell_stay' C1.out hW)
    simpa using h1)).mono ?_
  rintro e w2 ⟨⟨s, hs, rfl⟩, hb⟩
  have B2 := Lib.hid (Below.then' B1.out hb)
  have HS := Lib.hid (show (favL xs).Sheet = s.Sheet from by
    rw [hs]; unfold favL
    rw [favC_pos]; rfl)
  clear hs hb hp hp2 hp3 h0
  have B3 := Lib.hid (Below.then' B2.out (bel_al1 w2 (.cells #[.int .i64 s.Sheet, .int .i64 s.Reader, .int .i64 s.Out, .int .i64 s.Due, .int .i64 s.Back] 43)))
  go_wp2
  go_ret2
  exact ⟨by unfold FavoriteSheet_0; rw [E.out, HS.out]; rfl, B3.out⟩
end Go.Proofs.YtffbljbgmgifnaaGreatDoor
namespace Go.Proofs.YtffbljbgmgifnaaGreatDoor
open Go.RowKit

theorem IsLoanS.cellsAt {w : World} {b o len cap : Nat} {xs : List VLoan} (h : IsLoanS w (some ⟨b, o, none⟩) len cap xs) {k : Nat} {s : VLoan} (hs : xs[k]? = some s) : LoanAt w b (o + k * 5) s := by
  obtain ⟨_, _, e, _, hat⟩ := h.at (by have := (List.getElem?_eq_some_iff.1 hs).1; have := h.1; omega)
  cases e
  exact hat k s hs
theorem retL_at {xs : List VLoan} {sh d : Int} {i : Nat} {s : VLoan} (h : lentAt xs sh = (i : Int)) (hs : xs[i]? = some s) : retL xs sh d = xs.set i (cameL s d) ∧ cameL (loAt xs (lentAt xs sh).toNat) d = cameL s d := by
  unfold retL; rw [h, Int.toNat_natCast, loAt_some hs]; exact ⟨rfl, rfl⟩
theorem ret_no {xs : List VLoan} {sh d : Int} (h : ReturnSheet_2 xs sh d = false) : ReturnSheet_0 xs sh d = [] ∧ ReturnSheet_1 xs sh d = 0 := by
  unfold ReturnSheet_0 ReturnSheet_1; rw [h]; exact ⟨rfl, rfl⟩
theorem ret_none {xs : List VLoan} {sh d : Int} (h : lentAt xs sh = -1) : ReturnSheet_2 xs sh d = false := by unfold ReturnSheet_2; rw [h]; simp
theorem ret_is {xs : List VLoan} {sh d : Int} {i : Nat} {s : VLoan} (h : lentAt xs sh = (i : Int)) (hs : xs[i]? = some s) : ReturnSheet_2 xs sh d = (areLo xs && (dayB d && areLo (xs.set i (cameL s d)))) := by
  unfold ReturnSheet_2; rw [(retL_at h hs).1, h, decide_eq_true (by omega : (0 : Int) ≤ (i : Int))]; simp
theorem ret_yes {xs : List VLoan} {sh d : Int} {i : Nat} {s : VLoan} (h : lentAt xs sh = (i : Int)) (hs : xs[i]? = some s) (hy : ReturnSheet_2 xs sh d = true) : ReturnSheet_0 xs sh d = xs.set i (cameL s d) ∧ ReturnSheet_1 xs sh d = fineL (cameL s d) d := by
  unfold ReturnSheet_0 ReturnSheet_1; rw [hy, if_pos rfl, if_pos rfl, (retL_at h hs).2]; exact ⟨(retL_at h hs).1, rfl⟩
end Go.Proofs.YtffbljbgmgifnaaGreatDoor
namespace Go.Proofs.YtffbljbgmgifnaaGreatDoor
open Go.RowKit

theorem proL_at {xs : List VLoan} {sh n : Int} {i : Nat} {s : VLoan} (h : lentAt xs sh = (i : Int)) (hs : xs[i]? = some s) : proL xs sh n = xs.set i (longL s n) := by
  unfold proL; rw [h, Int.toNat_natCast, loAt_some hs]
theorem pro_no {xs : List VLoan} {sh d n : Int} (h : ProlongLoan_1 xs sh d n = false) : ProlongLoan_0 xs sh d n = [] := by
  unfold ProlongLoan_0; rw [h]; rfl
theorem pro_none {xs : List VLoan} {sh d n : Int} (h : lentAt xs sh = -1) : ProlongLoan_1 xs sh d n = false := by unfold ProlongLoan_1; rw [h]; simp
theorem pro_is {xs : List VLoan} {sh d n : Int} {i : Nat} {s : VLoan} (h : lentAt xs sh = (i : Int)) (hs : xs[i]? = some s) : ProlongLoan_1 xs sh d n = (areLo xs && (dayB d && (daysB n && (mayPro s d && areLo (xs.set i (longL s n)))))) := by
  unfold ProlongLoan_1; rw [proL_at h hs, h, decide_eq_true (by omega : (0 : Int) ≤ (i : Int)), Int.toNat_natCast, loAt_some hs]; simp
theorem pro_yes {xs : List VLoan} {sh d n : Int} {i : Nat} {s : VLoan} (h : lentAt xs sh = (i : Int)) (hs : xs[i]? = some s) (hy : ProlongLoan_1 xs sh d n = true) : ProlongLoan_0 xs sh d n = xs.set i (longL s n) := by
  unfold ProlongLoan_0; rw [hy, if_pos rfl]; exact proL_at h hs
theorem mayPro_yes {s : VLoan} {d : Int} (h : mayPro s d = true) : d ≤ s.Due ∧ s.Out ≤ d := by simpa [mayPro] using h
theorem mayPro_no {s : VLoan} {d : Int} (h : mayPro s d = false) : s.Due < d ∨ d < s.Out := by
  by_cases h1 : d ≤ s.Due
  · by_cases h2 : s.Out ≤ d
    · simp [mayPro, h1, h2] at h
    · exact .inr (by omega)
  · exact .inl (by omega)
set_option maxHeartbeats 12800000 in
set_option maxRecDepth 100000 in
theorem specProlongLoan_any (a : Option Addr) (len cap : Nat) (xs : List VLoan) (sh d n : Int) (w : World) (h : IsLoanS w a len cap xs) (_ : xs.length ≤ 1048576) :
    Calls Tryz.prog 12 #[.slice a len cap, .int .i64 sh, .int .i64 d, .int .i64 n] w (ProlongLoan_Post xs sh d n w) := by
  have hm := h.2.2.1
  have hcl := h.2.1
  unfold maxLen at hm
  obtain rfl := h.1
  obtain ⟨i0, hi, hz0, hz1, hz2⟩ := info_parts infoLoan
  have S := Lib.hid h
  clear h
  obtain ⟨q1, h1⟩ : ∃ q, areLo xs = q := ⟨_, rfl⟩
  have H1 := Lib.hid h1
  clear h1
  rcases lent_cases xs sh with hn | ⟨i, s, hn, hs, he1, he2⟩
  · have HN := Lib.hid hn
    have E2 := Lib.hid (pro_none (d := d) (n := n) hn)
    have E := Lib.hid (pro_no E2.out)
    clear hn
    go_enter Tryz.func12, Tryz.ntmps12
    go_wp2_with fail
    refine (l11Open_any _ _ _ xs sh _ S.out).mono ?_
    rintro e w1 ⟨rfl, hb⟩
    rw [HN.out]
    have B1 := Lib.hid hb
    have S1 := Lib.hid (S.out.below hb)
    clear hb
    go_wp2_with fail
    refine (l11Good_any _ _ _ xs _ S1.out).mono ?_
    rintro e w2 ⟨rfl, hb⟩
    rw [H1.out]
    have B2 := Lib.hid (Below.then' B1.out hb)
    have O2 := Lib.hid (made_ownLo w2 w.heap.size B2.out.size)
    clear hb
    cases q1
    · go_wp2
      go_ret2
      exact ⟨_, by rw [E2.out]; rfl, by rw [E.out]; exact O2.out, Below.then' B2.out (bel_al1 _ _)⟩
    · go_wp2
      go_ret2
      exact ⟨_, by rw [E2.out]; rfl, by rw [E.out]; exact O2.out, Below.then' B2.out (bel_al1 _ _)⟩
  have hil := (List.getElem?_eq_some_iff.1 hs).1
  have HN := Lib.hid hn
  have HS := Lib.hid hs
  obtain ⟨q2, h2⟩ : ∃ q, dayB d = q := ⟨_, rfl⟩
  obtain ⟨R, hR⟩ : ∃ R, xs.set i (longL s n) = R := ⟨_, rfl⟩
  obtain ⟨q3, h3⟩ : ∃ q, areLo R = q := ⟨_, rfl⟩
  obtain ⟨q4, h4⟩ : ∃ q, daysB n = q := ⟨_, rfl⟩
  obtain ⟨q5, h5⟩ : ∃ q, mayPro s d = q := ⟨_, rfl⟩
  have E2 := Lib.hid (show ProlongLoan_1 xs sh d n = (q1 && (q2 && (q4 && (q5 && q3)))) from by rw [pro_is hn hs, H1.out, h2, h4, h5, hR, h3])
  have H4 := Lib.hid h4
  have H5 := Lib.hid h5
  have H2 := Lib.hid h2
  have H3 := Lib.hid h3
  have HR := Lib.hid hR
  have hi00 : ¬ (i : Int) < 0 := by omega
  have hi0 : (0 : Int) ≤ (i : Int) := by omega
  have hi1 : (i : Int) < (xs.length : Int) := by omega
  clear hn hs h2 hR h3 h4 h5 he1 he2
  go_enter Tryz.func12, Tryz.ntmps12
  go_wp2_with fail
  refine (l11Open_any _ _ _ xs sh _ S.out).mono ?_
  rintro e w0 ⟨rfl, hb⟩
  rw [HN.out]
  have B0 := Lib.hid hb
  have S0 := Lib.hid (S.out.below hb)
  clear hb
  go_wp2_with fail
  refine (l11Good_any _ _ _ xs _ S0.out).mono ?_
  rintro e w1 ⟨rfl, hb⟩
  rw [H1.out]
  have B1 := Lib.hid (Below.then' B0.out hb)
  have S1 := Lib.hid (S0.out.below hb)
  have sz1 := B1.out.size
  have O1 := Lib.hid (made_ownLo w1 w.heap.size sz1)
  clear hb
  cases q1
  · have E := Lib.hid (pro_no (E2.out.trans rfl))
    go_wp2
    go_ret2
    exact ⟨_, by rw [E2.out]; rfl, by rw [E.out]; exact O1.out, Below.then' B1.out (bel_al1 _ _)⟩
  go_wp2_with fail
  refine (l2Day_any _ _).mono ?_
  rintro e w' ⟨rfl, rfl⟩
  rw [H2.out]
  cases q2
  · have E := Lib.hid (pro_no (E2.out.trans rfl))
    go_wp2
    go_ret2
    exact ⟨_, by rw [E2.out]; rfl, by rw [E.out]; exact O1.out, Below.then' B1.out (bel_al1 _ _)⟩
  go_wp2_with fail
  refine (l11Days_any _ _).mono ?_
  rintro e w' ⟨rfl, rfl⟩
  rw [H4.out]
  cases q4
  · have E := Lib.hid (pro_no (E2.out.trans rfl))
    go_wp2
    go_ret2
    exact ⟨_, by rw [E2.out]; rfl, by rw [E.out]; exact O1.out, Below.then' B1.out (bel_al1 _ _)⟩
  obtain ⟨b9, o9, rfl, _, hat⟩ := S1.out.at (by omega)
  obtain ⟨c0, c1, c2, c3, c4⟩ := hat i s HS.out
  clear hat
  cases q5
  · have E := Lib.hid (pro_no (E2.out.trans rfl))
    have MP := mayPro_no H5.out
    by_cases hdd : s.Due < d
    · go_wp2
      go_ret2
      exact ⟨_, by rw [E2.out]; rfl, by rw [E.out]; exact O1.out, Below.then' B1.out (bel_al1 _ _)⟩
    · have hdo : d < s.Out := by omega
      have hd1 : decide (s.Due < d) = false := decide_eq_false hdd
      clear MP
      go_wp2
      go_ret2
      exact ⟨_, by rw [E2.out]; rfl, by rw [E.out]; exact O1.out, Below.then' B1.out (bel_al1 _ _)⟩
  have MP := mayPro_yes H5.out
  have hd1 : ¬ s.Due < d := by omega
  have hd2 : ¬ d < s.Out := by omega
  have hd3 : decide (s.Due < d) = false := decide_eq_false hd1
  have hd4 : decide (d < s.Out) = false := decide_eq_false hd2
  have hok := loOk_iff.1 (areLo_ok H1.out (List.mem_of_getElem? HS.out))
  have hnn : 1 ≤ n ∧ n ≤ 60 := inB_iff.1 H4.out
  have wr : IntKind.i64.wrap (s.Due + n) = s.Due + n := IntWalk.i64_in _ (by omega)
  clear MP hok hnn
  have O0 := O1.out
  have SRC := srcLoan (S1.out.below (bel_al1 w1 (.cells #[] 43)))
  have BA := Lib.hid (Below.then' B1.out (bel_al1 w1 (.cells #[] 43)))
  go_wp2_with (at_builtin; refine wpList_append_list rfl _ _ 24 rfl w.heap.size 43 i0 (.agg #[.int .i64 0, .int .i64 0, .int .i64 0, .int .i64 0, .int .i64 0]) 5 40 Tryz.underlying24 hi hz0 hz1 hz2 rfl (by decide) _ _ _ rfl O0 _ xs.length cap (cellsLoan xs) rfl SRC (one_Lo xs) (by simp; unfold maxLen; omega) (by simp; omega) (by simp; omega) ?_; intro v' w3 hown1 hgrow1; have BG := Lib.hid (BA.out.grown hgrow1 BA.out.size (fun k e => (O0.lt k e).1)); rw [List.length_nil, Nat.zero_add, show cellsLoan [] ++ cellsLoan xs = cellsLoan xs from rfl] at hown1; obtain ⟨g, cap1, rfl, hg, hn, hcap⟩ := own_some hown1 (by omega); obtain ⟨a5, c5, e5, his, _⟩ := isLoanS_own hown1; cases e5; obtain ⟨d0, d1, d2, d3, d4⟩ := his.cellsAt HS.out; simp only [Nat.zero_add] at d0 d1 d2 d3 d4; have hgl := (hown1.lt g rfl).2; have f0 := hown1.frozenAt (i * 5); have f1 := hown1.frozenAt (i * 5 + 1); have f2 := hown1.frozenAt (i * 5 + 2); have f3 := hown1.frozenAt (i * 5 + 3); have f4 := hown1.frozenAt (i * 5 + 4); obtain ⟨u0, k0⟩ := own_cell hown1 (i * 5) (by rw [cellsLoan_len]; omega); obtain ⟨u1, k1⟩ := own_cell hown1 (i * 5 + 1) (by rw [cellsLoan_len]; omega); obtain ⟨u2, k2⟩ := own_cell hown1 (i * 5 + 2) (by rw [cellsLoan_len]; omega); obtain ⟨u3, k3⟩ := own_cell hown1 (i * 5 + 3) (by rw [cellsLoan_len]; omega); obtain ⟨u4, k4⟩ := own_cell hown1 (i * 5 + 4) (by rw [cellsLoan_len]; omega); have O3 := Lib.hid hown1; clear hgrow1 hown1 his k0 k1 k2 k3 k4)
  have h5 := own_setLoan O3.out hil (longL s n)
  have B5 := BG.out.grown h5.2 BG.out.size (fun k e => by cases e; omega)
  have hown5 := h5.1.alloc (.cells #[.int .i64 s.Sheet, .int .i64 s.Reader, .int .i64 s.Out, .int .i64 (s.Due + n), .int .i64 s.Back] 43)
  have B6 := Lib.hid (Below.then' B5 (bel_al1 _ (.cells #[.int .i64 s.Sheet, .int .i64 s.Reader, .int .i64 s.Out, .int .i64 (s.Due + n), .int .i64 s.Back] 43)))
  rw [show xs.length = (xs.set i (longL s n)).length from List.length_set.symm] at hown5
  obtain ⟨a6, c6, e6, his, _⟩ := isLoanS_own hown5
  cases e6
  rw [List.length_set, HR.out] at his
  have S6 := Lib.hid his
  rw [HR.out] at hown5
  have O6 := Lib.hid hown5
  have RL := Lib.hid (show R.length = xs.length from by rw [← HR.out, List.length_set])
  clear h5 hown5 his B5 f0 f1 f2 f3 f4 d0 d1 d2 d3 d4 c0 c1 c2 c3 c4
  refine (l11Good_any _ _ _ R _ S6.out).mono ?_
  rintro e w7 ⟨rfl, hb⟩
  rw [H3.out]
  have B7 := Lib.hid (Below.then' B6.out hb)
  have O7 := Lib.hid (ownsRow_below O6.out hb)
  clear hb
  cases q3
  · have E := Lib.hid (pro_no (E2.out.trans rfl))
    have O8 := Lib.hid (made_ownLo w7 w.heap.size (by have := B7.out.size; omega))
    go_wp2
    go_ret2
    exact ⟨_, by rw [E2.out]; rfl, by rw [E.out]; exact O8.out, Below.then' B7.out (bel_al1 _ _)⟩
  have E := Lib.hid (pro_yes HN.out HS.out (E2.out.trans rfl))
  go_wp2
  go_ret2
  refine ⟨_, by rw [E2.out]; rfl, ?_, B7.out⟩
  rw [E.out, HR.out, RL.out]
  have := O7.out
  rw [RL.out] at this
  exact this
end Go.Proofs.YtffbljbgmgifnaaGreatDoor
namespace Go.Proofs.YtffbljbgmgifnaaGreatDoor
open Go.RowKit

/-- The list comes out, in the slice that was handed in or in a row of the call's own. -/
def ReadsPut (a : Option Addr) (len cap : Nat) (zs : List Int) (w : World) (e : Ending) (w' : World) : Prop := ∃ h : Hd, e = .returned (.slice h.a h.n h.c) ∧ IsInts w' h.a h.n h.c zs ∧ Below w.heap.size w w' ∧ ((h.a = a ∧ h.n = len ∧ h.c = cap) ∨ w'.ownsRow w.heap.size 3 1 (.slice h.a h.n h.c) zs.length (intCells zs))
set_option maxHeartbeats 25600000 in
set_option maxRecDepth 100000 in
theorem l1PutO_any (a : Option Addr) (len cap : Nat) (zs : List Int) (n : Int) (w : World) (h : IsInts w a len cap zs) (hx : zs.length ≤ 1000) :
    Calls Tryz.prog 35 #[.slice a len cap, .int .i64 n] w (ReadsPut a len cap (putN n zs) w) := by
  obtain ⟨i1, hi1, hy0, hy1, hy2⟩ := info_parts infoInt
  have hm := h.2.2.1
  have hcl := h.2.1
  unfold maxLen at hm
  have S := Lib.hid h
  have L := Lib.hid h.1
  have hl10 : len ≤ 1000 := by have := h.1; omega
  clear h
  go_enter Tryz.func35, Tryz.ntmps35
  go_wp2
  go_loop [5] (fun i => ∃ k : Nat, k ≤ len ∧ i = .int .i64 k ∧ ∀ (j : Nat) z, j < k → zs[j]? = some z → z < n) (fun i => len - (intOf i).toNat)
  case atStart => exact ⟨0, Nat.zero_le _, rfl, fun _ _ h => by omega⟩
  case round =>
    obtain ⟨k, hk, rfl, hall⟩ := hrel
    have A := Lib.hid hall
    clear hall
    have k0 : (0 : Int) ≤ (k : Int) := by omega
    have kl : (k : Int) ≤ (len : Int) := by omega
    have kc : k ≤ cap := by omega
    have kc2 : (k : Int) ≤ (cap : Int) := by omega
    by_cases hlt : k < len
    · obtain ⟨z, hz⟩ := el_at L hlt
      obtain ⟨b, o, rfl, hb, hat⟩ := S.out.at (by omega)
      have c0 := hat k z hz
      have AT := Lib.hid hat
      have Z := Lib.hid hz
      have hi1' : (k : Int) < (len : Int) := by omega
      clear hz hat
      by_cases hzn : z < n
      · go_wp2
        go_round
        case rel => exact ⟨k + 1, by omega, by go_num, fun j y hj hy => by
          by_cases e : j = k
          · subst e; rw [Z.out] at hy; cases hy; exact hzn
          · exact A.out j y (by omega) hy⟩
        case measure => simp [intOf]; omega
      · have PA := Lib.hid (putN_at A.out (fun y hy => by rw [Z.out] at hy; cases hy; exact hzn) (by have := L.out; omega) : putN n zs = if zs[k]? = some n then zs else zs.take k ++ n :: zs.drop k)
        by_cases hze : z = n
        · have E := Lib.hid (show putN n zs = zs from by rw [PA.out, Z.out, if_pos (by rw [hze])])
          have hb1 : (z == n) = true := by simpa using hze
          subst hze
          go_wp2
          go_ret
          exact ⟨⟨_, len, cap⟩, rfl, by rw [E.out]; exact S.out, Below.refl _ _, .inl ⟨rfl, rfl, rfl⟩⟩
        · have E := Lib.hid (show putN n zs = zs.take k ++ n :: zs.drop k from by rw [PA.out, Z.out, if_neg (fun e => hze (Option.some.inj e))])
          have hb1 : (z == n) = false := by simpa using hze
          have hcj : ¬ cap = k := by omega
          clear PA
          go_wp2_with fail
          refine wp_world (fun W => Below w.heap.size w W) (by first | exact Below.refl _ _ | exact bel_drawn _ _) ?_
          intro W hbw
          have BW := Lib.hid hbw
          have hW0 := hbw.size
          clear hbw c0
          have hj' : k ≤ len := hk
          go_region_law (first
            | (refine step_append_some (by rfl) (.tmp 33) (.tmp 36) 27 (by rfl) W.heap.size 3 i1 (.int .i64 0) 1 8 Tryz.underlying27 hi1 hy0 hy1 hy2 (by rfl) (by decide) _ (by simp [Act.eval]; rfl) _ _ 0 [] (by rfl) (by first | exact made_intsN W.drew W.heap.size (Nat.le_refl _) | exact (made_intsN W.drew W.heap.size (Nat.le_refl _)).alloc (.cells #[.int .i64 n] 3) | exact madeLaterN W (.cells #[.int .i64 n] 3)) _ (by simp [Act.eval]; rfl) _ k _ (intCells (zs.take k)) (by rfl) (by first | exact srcInts_takeN (S.out.below (belDAN BW.out _)) hj' | exact srcInts_takeN (S.out.below (belDAAN BW.out _ _)) hj') (one_intsN _) (by unfold maxLen; omega) (by omega) (by first | exact (belDAN (Below.refl W.heap.size W) _).size | exact (belDAAN (Below.refl W.heap.size W) _ _).size) ?_; intro g5 c5 w5 hown5 hgrow5 hn5 hc5 hg5 hl5; rw [Nat.zero_add, List.nil_append] at hown5; have O5 := Lib.hid hown5; have hs5 : W.heap.size ≤ w5.heap.size := by omega
               have B5 := Lib.hid (show Below w.heap.size w w5 from by first | exact (belDAN BW.out _).grown hgrow5 (belDAN BW.out _).size (fun j e => by cases e; omega) | exact (belDAAN BW.out _ _).grown hgrow5 (belDAAN BW.out _ _).size (fun j e => by cases e; omega))
               try have N5 := Lib.hid (lit_LN hgrow5)
               try have N5 := Lib.hid (lit_MN hgrow5)
               clear hown5 hgrow5)
            | (refine step_append_some (by rfl) (.tmp 37) (.tmp 39) 27 (by rfl) W.heap.size 3 i1 (.int .i64 0) 1 8 Tryz.underlying27 hi1 hy0 hy1 hy2 (by rfl) (by decide) _ (by simp [Act.eval]; rfl) g5 c5 k (intCells (zs.take k)) (by rfl) (by first | exact O5.out | exact O5.out.alloc _) _ (by simp [Act.eval]; rfl) _ 1 1 [.int .i64 n] (by rfl) (by first | exact src_oneN N5.out | exact src_oneN (cell_box w5 (.int .i64 n) 3 _ rfl)) (one_intN n) (by unfold maxLen; omega) (by omega) (by first | exact hs5 | exact Nat.le_trans hs5 (bel_al1 w5 _).size) ?_; intro g6 c6 w6 hown6 hgrow6 hn6 hc6 hg6 hl6; have O6 := Lib.hid hown6; have hs6 : W.heap.size ≤ w6.heap.size := by omega
               have B6 := Lib.hid (show Below w.heap.size w w6 from by first | exact B5.out.grown hgrow6 B5.out.size (fun j e => by cases e; omega) | exact (Below.then' B5.out (bel_al1 _ _)).grown hgrow6 (Below.then' B5.out (bel_al1 _ _)).size (fun j e => by cases e; omega))
               clear hown6 hgrow6)
            | (refine step_append_some (by rfl) (.tmp 40) (.tmp 43) 27 (by rfl) W.heap.size 3 i1 (.int .i64 0) 1 8 Tryz.underlying27 hi1 hy0 hy1 hy2 (by rfl) (by decide) _ (by simp [Act.eval]; rfl) g6 c6 (k + 1) (intCells (zs.take k) ++ [.int .i64 n]) (by rfl) O6.out _ (by simp [Act.eval]; rfl) _ (len - k) _ (intCells (zs.drop k)) (by rfl) (srcInts_dropN (S.out.below B6.out) hj') (one_intsN _) (by unfold maxLen; omega) (by omega) hs6 ?_; intro g7 c7 w7 hown7 hgrow7 hn7 hc7 hg7 hl7
               have O7 := Lib.hid hown7
               have B7 := Lib.hid (show Below w.heap.size w w7 from B6.out.grown hgrow7 B6.out.size (fun j e => by cases e; omega))
               clear hown7 hgrow7))
          all_goals go_wp2
          all_goals go_ret
          all_goals
            have h := O7.out
            have hln : k + 1 + (len - k) = (zs.take k ++ n :: zs.drop k).length := by have := L.out; rw [List.length_append, List.length_take, List.length_cons, List.length_drop]; omega
            rw [show intCells (zs.take k) ++ [Value.int .i64 n] ++ intCells (zs.drop k) = intCells (zs.take k ++ n :: zs.drop k) from by simp [intCells]] at h
            refine ⟨⟨_, _, _⟩, rfl, by rw [E.out]; exact ints_putN h hln, B7.out, .inr ?_⟩
            rw [E.out]
            exact hln ▸ ownsRow_base h hW0
    · obtain rfl : k = len := by omega
      have E := Lib.hid (show putN n zs = zs ++ [n] from by
        have hz : zs.length ≤ k := by have := L.out; omega
        have h := putN_at (zs := zs) (k := k) A.out (fun y hy => by rw [List.getElem?_eq_none hz] at hy; cases hy) (by have := L.out; omega)
        rw [h, if_neg (by rw [List.getElem?_eq_none hz]; simp), List.take_of_length_le hz, List.drop_of_length_le hz])
      have TK := Lib.hid (show zs.take k = zs from List.take_of_length_le (by have := L.out; omega))
      have hj' : k ≤ k := Nat.le_refl _
      go_wp2_with fail
      refine wp_world (fun W => Below w.heap.size w W) (by first | exact Below.refl _ _ | exact bel_drawn _ _) ?_
      intro W hbw
      have BW := Lib.hid hbw
      have hW0 := hbw.size
      clear hbw
      by_cases hcj : cap = k
      all_goals rcases a with _ | p
      all_goals
          go_region_law (first
            | (refine step_append_optN (by rfl) (.tmp 33) (.tmp 36) 27 (by rfl) W.heap.size 3 i1 (.int .i64 0) 1 8 Tryz.underlying27 hi1 hy0 hy1 hy2 (by rfl) (by decide) _ (by simp [Act.eval] <;> rfl) 0 [] (by first | exact made_intsN W.drew W.heap.size (Nat.le_refl _) | exact (made_intsN W.drew W.heap.size (Nat.le_refl _)).alloc (.cells #[.int .i64 n] 3) | exact madeLaterN W (.cells #[.int .i64 n] 3)) _ (by simp [Act.eval] <;> rfl) _ k _ (intCells (zs.take k)) (by rfl) (by first | exact srcInts_takeN (S.out.below (belDAN BW.out _)) hj' | exact srcInts_takeN (S.out.below (belDAAN BW.out _ _)) hj') (one_intsN _) (by unfold maxLen; omega) (by omega) (by first | exact (belDAN (Below.refl W.heap.size W) _).size | exact (belDAAN (Below.refl W.heap.size W) _ _).size) ?_; intro v5 w5 hown5 hgrow5; rw [Nat.zero_add, List.nil_append] at hown5; have O5 := Lib.hid hown5
               have B5W := Lib.hid (show Below W.heap.size W w5 from by first | exact (belDAN (Below.refl _ W) _).grown hgrow5 (belDAN (Below.refl _ W) _).size (fun j e => by have := own_is e; omega) | exact (belDAAN (Below.refl _ W) _ _).grown hgrow5 (belDAAN (Below.refl _ W) _ _).size (fun j e => by have := own_is e; omega))
               have hs5 : W.heap.size ≤ w5.heap.size := B5W.out.size
               have B5 := Lib.hid (Below.then' BW.out B5W.out)
               try have N5 := Lib.hid (lit_LN hgrow5)
               try have N5 := Lib.hid (lit_MN hgrow5)
               clear hown5 hgrow5)
            | (refine step_append_optN (by rfl) (.tmp 37) (.tmp 39) 27 (by rfl) W.heap.size 3 i1 (.int .i64 0) 1 8 Tryz.underlying27 hi1 hy0 hy1 hy2 (by rfl) (by decide) _ (by simp [Act.eval] <;> rfl) k (intCells (zs.take k)) (by first | exact O5.out | exact O5.out.alloc _) _ (by simp [Act.eval] <;> rfl) _ 1 1 [.int .i64 n] (by rfl) (by first | exact src_oneN N5.out | exact src_oneN (cell_box w5 (.int .i64 n) 3 _ rfl)) (one_intN n) (by unfold maxLen; omega) (by omega) (by first | exact hs5 | exact Nat.le_trans hs5 (bel_al1 w5 _).size) ?_; intro v6 w6 hown6 hgrow6; have O6 := Lib.hid hown6
               have B6 := Lib.hid (show Below w.heap.size w w6 from by first | exact B5.out.grown hgrow6 B5.out.size (fun j e => Nat.le_trans hW0 (O5.out.lt j e).1) | exact (Below.then' B5.out (bel_al1 _ _)).grown hgrow6 (Below.then' B5.out (bel_al1 _ _)).size (fun j e => Nat.le_trans hW0 (O5.out.lt j e).1))
               have hs6 : W.heap.size ≤ w6.heap.size := by first | exact (B5W.out.grown hgrow6 B5W.out.size (fun j e => (O5.out.lt j e).1)).size | exact ((Below.then' B5W.out (bel_al1 _ _)).grown hgrow6 (Below.then' B5W.out (bel_al1 _ _)).size (fun j e => (O5.out.lt j e).1)).size
               clear hown6 hgrow6)
            | (refine step_append_optN (by rfl) (.tmp 40) (.tmp 43) 27 (by rfl) W.heap.size 3 i1 (.int .i64 0) 1 8 Tryz.underlying27 hi1 hy0 hy1 hy2 (by rfl) (by decide) _ (by simp [Act.eval] <;> rfl) (k + 1) (intCells (zs.take k) ++ [.int .i64 n]) O6.out _ (by simp [Act.eval] <;> rfl) _ 0 _ [] (by rfl) ⟨rfl, .inl rfl⟩ (by simp) (by unfold maxLen; omega) (by omega) hs6 ?_; intro v7 w7 hown7 hgrow7
               have O7 := Lib.hid hown7
               have B7 := Lib.hid (show Below w.heap.size w w7 from B6.out.grown hgrow7 B6.out.size (fun j e => Nat.le_trans hW0 (O6.out.lt j e).1))
               clear hown7 hgrow7))
          all_goals go_wp2
          all_goals go_ret
          all_goals
            have h := O7.out
            rw [TK.out, show intCells zs ++ [Value.int .i64 n] ++ [] = intCells (zs ++ [n]) from by simp [intCells], show k + 1 + 0 = (zs ++ [n]).length from by have := L.out; rw [List.length_append, List.length_singleton]; omega] at h
            obtain ⟨a', c', e', h', _⟩ := isInts_own h
            rw [e']
            exact ⟨⟨a', (zs ++ [n]).length, c'⟩, rfl, by rw [E.out]; exact h', B7.out, .inr (by rw [E.out]; exact e' ▸ ownsRow_base h hW0)⟩
end Go.Proofs.YtffbljbgmgifnaaGreatDoor
