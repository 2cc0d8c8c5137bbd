/- Texts in one: LoDr4, LoDr5, LoanE, Num, Fmt, Laid, Itoa, RdD. -/
import Derived.Test.YtffbljbgmgifnaaGreatDoorM5
import Derived.Test.YtffbljbgmgifnaaGreatDoorM1
import Derived.WalkKit
import Derived.WalkSpells
import Derived.Deep.QuietTactic
import Derived.BigQuiet
import Derived.Lib.Hide
import Derived.Lib.ItoaNum
import Derived.Below
import Derived.IntWalk
import Derived.Test.YtffbljbgmgifnaaGreatDoorShelf
import Derived.Lib.AppendIntMem
import Derived.Test.YtffbljbgmgifnaaGreatDoorRows
import Derived.Lib.LaidTab
import Derived.Lib.SmallJoins
import Derived.Stop.LaidErr
import Derived.Test.YtffbljbgmgifnaaGreatDoorM4
namespace Go.Proofs.YtffbljbgmgifnaaGreatDoor
open Go.RowKit Go.Deep

theorem results_five {fn : Func} {t u v x y : Tmp} (h : fn.results = #[.tmp t, .tmp u, .tmp v, .tmp x, .tmp y]) (tmps : Array Value) (P : Program) (w : World) :
    (results fn tmps).run P w = .ok (.tuple #[tmps.getD t undef, tmps.getD u undef, tmps.getD v undef, tmps.getD x undef, tmps.getD y undef]) w := by
  simp [results, h]
/-- A list of some loans, and numbers. -/
def LoansAt2 (w : World) (e : Ending) (w' : World) : Prop := ∃ (la : Option Addr) (lc : Nat) (xs : List VLoan) (x y : Int), e = .returned (.tuple #[.slice la xs.length lc, .int .i64 x, .int .i64 y]) ∧ xs.length ≤ 20 ∧ IsLoanS w' la xs.length lc xs ∧ Below w.heap.size w w'
def LoansAt4 (w : World) (e : Ending) (w' : World) : Prop := ∃ (la : Option Addr) (lc : Nat) (xs : List VLoan) (x y z u : Int), e = .returned (.tuple #[.slice la xs.length lc, .int .i64 x, .int .i64 y, .int .i64 z, .int .i64 u]) ∧ xs.length ≤ 20 ∧ IsLoanS w' la xs.length lc xs ∧ Below w.heap.size w w'
set_option maxHeartbeats 6400000 in
set_option maxRecDepth 100000 in
theorem drawReturnSheet_any (a : Option Addr) (len cap : Nat) (w : World) (h : CodeIn w a len cap) :
    Calls Tryz.prog 50 #[.slice a len cap] w (LoansAt2 w) := by
  have C0 := Lib.hid (cur_new w a len cap)
  have D0 := Lib.hid (h.at (bel_alloc w (.cells #[.slice a len cap, .int .i64 0, .int .u64 0] 51)))
  have G0 := Lib.hid (bel_alloc w (.cells #[.slice a len cap, .int .i64 0, .int .u64 0] 51))
  clear h
  go_enter Tryz.func50, Tryz.ntmps50
  go_wp2_with fail
  refine (loans_any w.heap.size a len cap _ _ C0.out D0.out (by omega)).mono ?_
  rintro e w1 ⟨v1, rfl, xs, hxl, hbd, hown, hc, hg⟩
  have C1 := Lib.hid hc
  have D1 := Lib.hid (D0.out.grown hg)
  have B1 := Lib.hid (below_cur G0.out rfl hg)
  obtain ⟨la, lc, rfl, his, _⟩ := isLoanS_own hown
  have NE := Lib.hid (show ∀ b o, la = some ⟨b, o, none⟩ → b ≠ w.heap.size from fun b o e => by
    have := (hown.lt b (by rw [e]; rfl)).1
    rw [size_al] at this; omega)
  have S1 := Lib.hid his
  have BD := Lib.hid hbd
  have XL := Lib.hid hxl
  have KEEP := Lib.hid (show ∀ W : World, w1.grownBy W (some w.heap.size) → IsLoanS W la xs.length lc xs from fun W hG => his.grown hG (fun b o e e2 => NE.out b o e (Option.some.inj e2)))
  clear hc hg hown his hbd hxl
  go_wp2_with fail
  refine (loanSheet_any w.heap.size a len cap _ _ C1.out D1.out (by omega)).mono ?_
  rintro e w2 ⟨x, rfl, x0, x1, hc, hg⟩
  have C2 := Lib.hid hc
  have H2 := Lib.hid hg
  have D2 := Lib.hid (D1.out.grown hg)
  clear hc hg
  go_wp2_with fail
  refine (loanDay_any w.heap.size a len cap _ la xs.length lc xs _ C2.out D2.out (by omega) (KEEP.out _ H2.out) XL.out BD.out NE.out).mono ?_
  rintro e w3 ⟨y, rfl, y0, y1, hc, hg⟩
  have H3 := Lib.hid (grown_trans H2.out hg)
  clear hc hg
  have B3 := Lib.hid (below_cur B1.out rfl H3.out)
  have S3 := Lib.hid (KEEP.out _ H3.out)
  go_wp2
  go_ret3
  exact ⟨la, lc, xs, x, y, rfl, XL.out, S3.out, B3.out⟩
end Go.Proofs.YtffbljbgmgifnaaGreatDoor
namespace Go.Proofs.YtffbljbgmgifnaaGreatDoor
open Go.RowKit Go.Deep

def LoansAt1 (w : World) (e : Ending) (w' : World) : Prop := ∃ (la : Option Addr) (lc : Nat) (xs : List VLoan) (x : Int), e = .returned (.tuple #[.slice la xs.length lc, .int .i64 x]) ∧ xs.length ≤ 20 ∧ IsLoanS w' la xs.length lc xs ∧ Below w.heap.size w w'
def LoansAt3 (w : World) (e : Ending) (w' : World) : Prop := ∃ (la : Option Addr) (lc : Nat) (xs : List VLoan) (x y z : Int), e = .returned (.tuple #[.slice la xs.length lc, .int .i64 x, .int .i64 y, .int .i64 z]) ∧ xs.length ≤ 20 ∧ IsLoanS w' la xs.length lc xs ∧ Below w.heap.size w w'
/-- As LoansAt2; the day is told to be no greater one. -/
def LoansDay (w : World) (e : Ending) (w' : World) : Prop := ∃ (la : Option Addr) (lc : Nat) (xs : List VLoan) (x y : Int), e = .returned (.tuple #[.slice la xs.length lc, .int .i64 x, .int .i64 y]) ∧ xs.length ≤ 20 ∧ IsLoanS w' la xs.length lc xs ∧ Below w.heap.size w w'
theorem results_four5 {fn : Func} {t u v x : Tmp} (h : fn.results = #[.tmp t, .tmp u, .tmp v, .tmp x]) (tmps : Array Value) (P : Program) (w : World) :
    (results fn tmps).run P w = .ok (.tuple #[tmps.getD t undef, tmps.getD u undef, tmps.getD v undef, tmps.getD x undef]) w := by
  simp [results, h]
set_option maxHeartbeats 6400000 in
set_option maxRecDepth 100000 in
theorem drawLateOn_any (a : Option Addr) (len cap : Nat) (w : World) (h : CodeIn w a len cap) :
    Calls Tryz.prog 5 #[.slice a len cap] w (LoansAt1 w) := by
  have C0 := Lib.hid (cur_new w a len cap)
  have D0 := Lib.hid (h.at (bel_alloc w (.cells #[.slice a len cap, .int .i64 0, .int .u64 0] 51)))
  have G0 := Lib.hid (bel_alloc w (.cells #[.slice a len cap, .int .i64 0, .int .u64 0] 51))
  clear h
  go_enter Tryz.func5, Tryz.ntmps5
  go_wp2_with fail
  refine (loans_any w.heap.size a len cap _ _ C0.out D0.out (by omega)).mono ?_
  rintro e w1 ⟨v1, rfl, xs, hxl, hbd, hown, hc, hg⟩
  have C1 := Lib.hid hc
  have D1 := Lib.hid (D0.out.grown hg)
  have B1 := Lib.hid (below_cur G0.out rfl hg)
  obtain ⟨la, lc, rfl, his, _⟩ := isLoanS_own hown
  have NE := Lib.hid (show ∀ b o, la = some ⟨b, o, none⟩ → b ≠ w.heap.size from fun b o e => by
    have := (hown.lt b (by rw [e]; rfl)).1
    rw [size_al] at this; omega)
  have S1 := Lib.hid his
  have BD := Lib.hid hbd
  have XL := Lib.hid hxl
  have KEEP := Lib.hid (show ∀ W : World, w1.grownBy W (some w.heap.size) → IsLoanS W la xs.length lc xs from fun W hG => his.grown hG (fun b o e e2 => NE.out b o e (Option.some.inj e2)))
  clear hc hg hown his hbd hxl
  go_wp2_with fail
  refine (loanDay_any w.heap.size a len cap _ la xs.length lc xs _ C1.out D1.out (by omega) (KEEP.out _ (World.grownBy.refl w1 _)) XL.out BD.out NE.out).mono ?_
  rintro e w3 ⟨y, rfl, y0, y1, hc, hg⟩
  have H3 := Lib.hid hg
  clear hc hg
  have B3 := Lib.hid (below_cur B1.out rfl H3.out)
  have S3 := Lib.hid (KEEP.out _ H3.out)
  go_wp2
  go_ret2
  exact ⟨la, lc, xs, y, rfl, XL.out, S3.out, B3.out⟩
set_option maxHeartbeats 6400000 in
set_option maxRecDepth 100000 in
theorem drawProlongLoan_any (a : Option Addr) (len cap : Nat) (w : World) (h : CodeIn w a len cap) :
    Calls Tryz.prog 10 #[.slice a len cap] w (LoansAt3 w) := by
  have C0 := Lib.hid (cur_new w a len cap)
  have D0 := Lib.hid (h.at (bel_alloc w (.cells #[.slice a len cap, .int .i64 0, .int .u64 0] 51)))
  have G0 := Lib.hid (bel_alloc w (.cells #[.slice a len cap, .int .i64 0, .int .u64 0] 51))
  clear h
  go_enter Tryz.func10, Tryz.ntmps10
  go_wp2_with fail
  refine (loans_any w.heap.size a len cap _ _ C0.out D0.out (by omega)).mono ?_
  rintro e w1 ⟨v1, rfl, xs, hxl, hbd, hown, hc, hg⟩
  have C1 := Lib.hid hc
  have D1 := Lib.hid (D0.out.grown hg)
  have B1 := Lib.hid (below_cur G0.out rfl hg)
  obtain ⟨la, lc, rfl, his, _⟩ := isLoanS_own hown
  have NE := Lib.hid (show ∀ b o, la = some ⟨b, o, none⟩ → b ≠ w.heap.size from fun b o e => by
    have := (hown.lt b (by rw [e]; rfl)).1
    rw [size_al] at this; omega)
  have S1 := Lib.hid his
  have BD := Lib.hid hbd
  have XL := Lib.hid hxl
  have KEEP := Lib.hid (show ∀ W : World, w1.grownBy W (some w.heap.size) → IsLoanS W la xs.length lc xs from fun W hG => his.grown hG (fun b o e e2 => NE.out b o e (Option.some.inj e2)))
  clear hc hg hown his hbd hxl
  go_wp2_with fail
  refine (loanSheet_any w.heap.size a len cap _ _ C1.out D1.out (by omega)).mono ?_
  rintro e w2 ⟨x, rfl, x0, x1, hc, hg⟩
  have C2 := Lib.hid hc
  have H2 := Lib.hid hg
  have D2 := Lib.hid (D1.out.grown hg)
  clear hc hg
  go_wp2_with fail
  refine (loanDay_any w.heap.size a len cap _ la xs.length lc xs _ C2.out D2.out (by omega) (KEEP.out _ H2.out) XL.out BD.out NE.out).mono ?_
  rintro e w3 ⟨y, rfl, y0, y1, hc, hg⟩
  have C3 := Lib.hid hc
  have H3 := Lib.hid (grown_trans H2.out hg)
  have D3 := Lib.hid (D1.out.grown H3.out)
  have hs3 := H3.out.size
  have hb3 : w.heap.size < w1.heap.size := C1.out.lt
  clear hc hg
  go_wp2_with fail
  refine (pick_any w.heap.size a len cap _ 24 _ (C3.out.alloc _) (D3.out.alloc _) (by omega) (by omega) (by omega)).mono ?_
  rintro e w7 ⟨p, rfl, p0, p1, hc, hg⟩
  have C7 := Lib.hid hc
  have HG7 := Lib.hid hg
  have H7 := Lib.hid (grown_trans (grow_al H3.out _) hg)
  have D7 := Lib.hid (D1.out.grown H7.out)
  clear hc hg
  obtain ⟨q, hz⟩ : ∃ z, p / 12 = z := ⟨_, rfl⟩
  have hz1 : 0 ≤ q ∧ q ≤ 1 := by omega
  have t1 : p.tdiv 12 = q := by rw [Int.tdiv_eq_ediv_of_nonneg (by omega)]; exact hz
  have t2 : IntKind.i64.wrap q = q := IntWalk.i64_in _ (by omega)
  have t3 : IntKind.i64.wrap (4 + q) = 4 + q := IntWalk.i64_in _ (by omega)
  have k0 : (0 : Int) ≤ 4 + q := by omega
  have k1 : 4 + q ≤ 5 := by omega
  obtain ⟨m, hm⟩ : ∃ m : Nat, (4 + q).toNat = m := ⟨_, rfl⟩
  have hm1 : 1 ≤ m ∧ m ≤ 5 := by omega
  clear hz
  go_wp2_with fail
  refine (among_part w.heap.size a len cap _ 5 m w3.heap.size 0 100 w3 w7 _ 3 rfl rfl ?_ HG7.out (by omega) C7.out D7.out (by omega) hm1.1 hm1.2 (by omega)).mono ?_
  · repeat (refine List.forall_mem_cons.2 ⟨⟨_, by omega, by omega, rfl⟩, ?_⟩)
    exact fun _ h => by cases h
  rintro e w8 ⟨n, rfl, n0, n1, hc, hg⟩
  have C8 := Lib.hid hc
  have H8 := Lib.hid (grown_trans H7.out hg)
  have D8 := Lib.hid (D1.out.grown H8.out)
  clear hc hg
  have B8 := Lib.hid (below_cur B1.out rfl H8.out)
  have S8 := Lib.hid (KEEP.out _ H8.out)
  go_wp2
  refine bodyPost_ret (results_four5 rfl _ _ _) rfl ?_
  exact ⟨la, lc, xs, x, y, n, rfl, XL.out, S8.out, B8.out⟩
set_option maxHeartbeats 6400000 in
set_option maxRecDepth 100000 in
theorem drawOpenLoans_any (a : Option Addr) (len cap : Nat) (w : World) (h : CodeIn w a len cap) :
    Calls Tryz.prog 24 #[.slice a len cap] w (LoansAt2 w) := by
  have C0 := Lib.hid (cur_new w a len cap)
  have D0 := Lib.hid (h.at (bel_alloc w (.cells #[.slice a len cap, .int .i64 0, .int .u64 0] 51)))
  have G0 := Lib.hid (bel_alloc w (.cells #[.slice a len cap, .int .i64 0, .int .u64 0] 51))
  clear h
  go_enter Tryz.func24, Tryz.ntmps24
  go_wp2_with fail
  refine (loans_any w.heap.size a len cap _ _ C0.out D0.out (by omega)).mono ?_
  rintro e w1 ⟨v1, rfl, xs, hxl, hbd, hown, hc, hg⟩
  have C1 := Lib.hid hc
  have D1 := Lib.hid (D0.out.grown hg)
  have B1 := Lib.hid (below_cur G0.out rfl hg)
  obtain ⟨la, lc, rfl, his, _⟩ := isLoanS_own hown
  have NE := Lib.hid (show ∀ b o, la = some ⟨b, o, none⟩ → b ≠ w.heap.size from fun b o e => by
    have := (hown.lt b (by rw [e]; rfl)).1
    rw [size_al] at this; omega)
  have S1 := Lib.hid his
  have BD := Lib.hid hbd
  have XL := Lib.hid hxl
  have KEEP := Lib.hid (show ∀ W : World, w1.grownBy W (some w.heap.size) → IsLoanS W la xs.length lc xs from fun W hG => his.grown hG (fun b o e e2 => NE.out b o e (Option.some.inj e2)))
  clear hc hg hown his hbd hxl
  have hb3 : w.heap.size < w1.heap.size := C1.out.lt
  go_wp2_with fail
  refine (pick_any w.heap.size a len cap _ 24 _ (C1.out.alloc _) (D1.out.alloc _) (by omega) (by omega) (by omega)).mono ?_
  rintro e w7 ⟨p, rfl, p0, p1, hc, hg⟩
  have C7 := Lib.hid hc
  have HG7 := Lib.hid hg
  have H7 := Lib.hid (grown_trans (grow_al (World.grownBy.refl w1 (some w.heap.size)) _) hg)
  have D7 := Lib.hid (D1.out.grown H7.out)
  clear hc hg
  obtain ⟨q, hz⟩ : ∃ z, p / 12 = z := ⟨_, rfl⟩
  have hz1 : 0 ≤ q ∧ q ≤ 1 := by omega
  have t1 : p.tdiv 12 = q := by rw [Int.tdiv_eq_ediv_of_nonneg (by omega)]; exact hz
  have t2 : IntKind.i64.wrap q = q := IntWalk.i64_in _ (by omega)
  have t3 : IntKind.i64.wrap (5 + q) = 5 + q := IntWalk.i64_in _ (by omega)
  have k0 : (0 : Int) ≤ 5 + q := by omega
  have k1 : 5 + q ≤ 6 := by omega
  obtain ⟨m, hm⟩ : ∃ m : Nat, (5 + q).toNat = m := ⟨_, rfl⟩
  have hm1 : 1 ≤ m ∧ m ≤ 6 := by omega
  clear hz
  go_wp2_with fail
  refine (among_part w.heap.size a len cap _ 6 m w1.heap.size 0 1000 w1 w7 _ 3 rfl rfl ?_ HG7.out (by omega) C7.out D7.out (by omega) hm1.1 hm1.2 (by omega)).mono ?_
  · repeat (refine List.forall_mem_cons.2 ⟨⟨_, by omega, by omega, rfl⟩, ?_⟩)
    exact fun _ h => by cases h
  rintro e w8 ⟨n, rfl, n0, n1, hc, hg⟩
  have C8 := Lib.hid hc
  have H8 := Lib.hid (grown_trans H7.out hg)
  have D8 := Lib.hid (D1.out.grown H8.out)
  clear hc hg
  go_wp2_with fail
  refine (loanDay_any w.heap.size a len cap _ la xs.length lc xs _ C8.out D8.out (by omega) (KEEP.out _ H8.out) XL.out BD.out NE.out).mono ?_
  rintro e w9 ⟨y, rfl, y0, y1, hc, hg⟩
  have H9 := Lib.hid (grown_trans H8.out hg)
  clear hc hg
  have B9 := Lib.hid (below_cur B1.out rfl H9.out)
  have S9 := Lib.hid (KEEP.out _ H9.out)
  go_wp2
  go_ret3
  exact ⟨la, lc, xs, n, y, rfl, XL.out, S9.out, B9.out⟩
set_option maxHeartbeats 1600000 in
set_option maxRecDepth 100000 in
theorem drawDaysLent_any (a : Option Addr) (len cap : Nat) (w : World) (h : CodeIn w a len cap) :
    Calls Tryz.prog 16 #[.slice a len cap] w (LoansAt2 w) := by
  go_enter Tryz.func16, Tryz.ntmps16
  go_wp2_with fail
  refine (drawReturnSheet_any a len cap _ h).mono ?_
  rintro e w1 ⟨la, lc, xs, x, y, rfl, h1, hs, hb⟩
  have S1 := Lib.hid hs
  have B1 := Lib.hid hb
  clear hs hb
  go_wp2
  go_ret3
  exact ⟨la, lc, xs, x, y, rfl, h1, S1.out, B1.out⟩
def LoanAny (w : World) (e : Ending) (w' : World) : Prop := ∃ s : VLoan, e = .returned (.agg #[.int .i64 s.Sheet, .int .i64 s.Reader, .int .i64 s.Out, .int .i64 s.Due, .int .i64 s.Back]) ∧ Below w.heap.size w w'
set_option maxHeartbeats 3200000 in
set_option maxRecDepth 100000 in
theorem drawLoanText_any (a : Option Addr) (len cap : Nat) (w : World) (h : CodeIn w a len cap) :
    Calls Tryz.prog 21 #[.slice a len cap] w (LoanAny w) := by
  have Z := Lib.hid (HBLoan.new w ⟨0, 0, 0, 0, 0⟩ _ rfl)
  have B0 := Lib.hid (bel_alloc w (.cells #[.int .i64 0, .int .i64 0, .int .i64 0, .int .i64 0, .int .i64 0] 43))
  obtain ⟨w0, hw0⟩ : ∃ w0, w.alloc (.cells #[.int .i64 0, .int .i64 0, .int .i64 0, .int .i64 0, .int .i64 0] 43) = w0 := ⟨_, rfl⟩
  rw [hw0] at Z B0
  have HZ : w0.heap.size = w.heap.size + 1 := by rw [← hw0]; exact size_al _ _
  have HC := Lib.hid (h.below B0.out)
  have C0 := Lib.hid (cur_new w0 a len cap)
  have D0 := Lib.hid (HC.out.at (bel_alloc w0 (.cells #[.slice a len cap, .int .i64 0, .int .u64 0] 51)))
  have G0 := Lib.hid (bel_alloc w0 (.cells #[.slice a len cap, .int .i64 0, .int .u64 0] 51))
  have Z0 := Lib.hid (Z.out.alloc (.cells #[.slice a len cap, .int .i64 0, .int .u64 0] 51))
  have hzs : w.heap.size < w0.heap.size := by omega
  have HZS := Lib.hid HZ
  clear h HZ
  go_enter Tryz.func21, Tryz.ntmps21
  go_wp2_with fail
  refine (among_any w0.heap.size a len cap _ (w0.heap.size + 1) 0 3 3 (0) 3900 _ (C0.out.alloc _) (D0.out.alloc _) (by omega) (by omega) (by omega) (by omega) (by simp) ?_).mono ?_
  · refine ints_at _ _ _ (0) 3900 3 _ (size_al _ _) rfl ?_
    repeat (refine List.forall_mem_cons.2 ⟨⟨_, by omega, by omega, rfl⟩, ?_⟩)
    exact fun _ h => by cases h
  rintro e w1 ⟨d, rfl, d0, d1, hc, hg⟩
  have C1 := Lib.hid hc
  have D1 := Lib.hid ((D0.out.alloc _).grown hg)
  have Z1 := Lib.hid ((Z0.out.alloc _).grown hg (by simp only [ne_eq, Option.some.injEq]; omega))
  have B1 := Lib.hid ((Below.then' (Below.then' B0.out G0.out) (bel_al1 _ (.cells #[.int .i64 0, .int .i64 42, .int .i64 3900] 3))).grown hg (by rw [size_al, size_al]; omega) (fun k e => by cases e; omega))
  clear hc hg
  go_wp2_with fail
  refine (loan_any w0.heap.size a len cap _ d _ C1.out D1.out (by omega) (by omega)).mono ?_
  rintro e w2 ⟨s, rfl, _, hc, hg⟩
  have Z2 := Lib.hid (Z1.out.grown hg (by simp only [ne_eq, Option.some.injEq]; omega))
  have B2 := Lib.hid (B1.out.grown hg B1.out.size (fun k e => by cases e; omega))
  clear hc hg hw0
  obtain ⟨q0, q1, q2, q3, q4⟩ := Z2.out.cells
  have f0 := Z2.out.free 0
  have f1 := Z2.out.free 1
  have f2 := Z2.out.free 2
  have f3 := Z2.out.free 3
  have f4 := Z2.out.free 4
  simp only [] at q0 q1 q2 q3 q4
  have ZF := Lib.hid (Z2.out.setAll s)
  go_wp2
  refine bodyPost_ret (resultsLoan1 rfl rfl ZF.out) rfl ⟨s, rfl, ?_⟩
  exact ((((B2.out.setCell (by simp) _).setCell (by simp) _).setCell (by simp) _).setCell (by simp) _).setCell (by simp) _
end Go.Proofs.YtffbljbgmgifnaaGreatDoor
namespace Go.Proofs.YtffbljbgmgifnaaGreatDoor
open Go.RowKit
set_option maxHeartbeats 3200000 in
set_option maxRecDepth 100000 in
theorem rLoans_yes (a : Option Addr) (len cap : Nat) (a' : Option Addr) (len' cap' : Nat) (xs : List VLoan) (w : World) (h : IsLoanS w a len cap xs) (h' : IsLoanS w a' len' cap' xs) :
    Calls Tryz.prog 13 #[.slice a len cap, .slice a' len' cap'] w fun e w' => e = .returned (.bool true) ∧ Below w.heap.size w w' := by
  obtain rfl := h.1
  obtain rfl := h'.1
  have hm := h.2.2.1
  have hcl := h.2.1
  unfold maxLen at hm
  have S := Lib.hid h
  have S' := Lib.hid h'
  clear h h'
  go_enter Tryz.func13, Tryz.ntmps13
  go_wp2
  go_loopw [5] (fun i wr => ∃ k : Nat, k ≤ xs.length ∧ i = .int .i64 k ∧ Below w.heap.size w wr) (fun i _ => xs.length - (intOf i).toNat)
  case atStart => exact ⟨0, Nat.zero_le _, rfl, Below.refl _ _⟩
  case round =>
    obtain ⟨k, hk, rfl, hbel⟩ := hrel
    have B := Lib.hid hbel
    by_cases hlt : k < xs.length
    · obtain ⟨s, hs⟩ : ∃ s, xs[k]? = some s := ⟨xs[k]'hlt, List.getElem?_eq_getElem _⟩
      obtain ⟨b, o, rfl, hb, hat⟩ := (S.out.below hbel).at (by omega)
      obtain ⟨b', o', rfl, hb', hat'⟩ := (S'.out.below hbel).at (by omega)
      obtain ⟨c0, c1, c2, c3, c4⟩ := hat k s hs
      obtain ⟨d0, d1, d2, d3, d4⟩ := hat' k s hs
      have hi0 : (0 : Int) ≤ (k : Int) := by omega
      have hi1 : (k : Int) < (xs.length : Int) := by omega
      clear hbel hs hat hat'
      go_wp2
      go_quiet (fail)
      have B1 := Lib.hid (Below.then' B.out (bel_drawn wr nq))
      go_wp2
      go_roundw
      case rel => exact ⟨k + 1, by omega, by go_num, B1.out⟩
      case measure => simp [intOf]; omega
    · obtain rfl : k = xs.length := by omega
      clear hbel
      go_wp2
      go_ret
      exact ⟨rfl, B.out⟩
end Go.Proofs.YtffbljbgmgifnaaGreatDoor
namespace Go.Proofs.YtffbljbgmgifnaaGreatDoor
open Go.RowKit

theorem l1In_yes (x a b : Int) (w : World) (h1 : a ≤ x) (h2 : x ≤ b) :
    Calls Tryz.prog 71 #[.int .i64 x, .int .i64 a, .int .i64 b] w fun e w' => e = .returned (.bool true) ∧ w = w' := by
  go_enter Tryz.func71, Tryz.ntmps71
  go_wp2
  go_ret
  exact ⟨rfl, rfl⟩
theorem l1In_low (x a b : Int) (w : World) (h1 : x < a) :
    Calls Tryz.prog 71 #[.int .i64 x, .int .i64 a, .int .i64 b] w fun e w' => e = .returned (.bool false) ∧ w = w' := by
  go_enter Tryz.func71, Tryz.ntmps71
  go_wp2
  go_ret
  exact ⟨rfl, rfl⟩
theorem l1In_high (x a b : Int) (w : World) (h1 : b < x) :
    Calls Tryz.prog 71 #[.int .i64 x, .int .i64 a, .int .i64 b] w fun e w' => e = .returned (.bool false) ∧ w = w' := by
  by_cases h : x < a
  · exact l1In_low x a b w h
  have h' : a ≤ x := by omega
  have h2 : decide (x ≤ b) = false := by simp; omega
  go_enter Tryz.func71, Tryz.ntmps71
  go_wp2
  go_ret
  exact ⟨rfl, rfl⟩

theorem l1In_out (x a b : Int) (w : World) (h : x < a ∨ b < x) :
    Calls Tryz.prog 71 #[.int .i64 x, .int .i64 a, .int .i64 b] w fun e w' => e = .returned (.bool false) ∧ w = w' := by
  rcases h with h | h
  · exact l1In_low x a b w h
  · exact l1In_high x a b w h

def digits10 : ByteArray := ⟨#[48, 49, 50, 51, 52, 53, 54, 55, 56, 57]⟩
/-- The decimal numeral of n, as the library has it. -/
def numOf (n : Nat) : ByteArray := strOf (Lib.decDigits n)
def digOf (n : Nat) : ByteArray := strOf [UInt8.ofNat (48 + n)]
theorem digit_at (n : Nat) (h : n < 10) : digits10.extract n (n + 1) = digOf n := by
  match n, h with
  | 0, _ | 1, _ | 2, _ | 3, _ | 4, _ | 5, _ | 6, _ | 7, _ | 8, _ | 9, _ => rfl
theorem decDigits_len (n : Nat) : (Lib.decDigits n).length ≤ n + 1 := by
  induction n using Nat.strongRecOn with
  | _ n ih =>
    by_cases h : n < 10
    · rw [Lib.decDigits, dif_pos h]; simp
    · rw [Lib.decDigits, dif_neg h]
      have := ih (n / 10) (by omega)
      simp; omega
theorem numOf_size (n : Nat) : (numOf n).size ≤ n + 1 := by rw [numOf, strOf_size]; exact decDigits_len n
theorem digOf_size (n : Nat) : (digOf n).size = 1 := rfl
theorem numOf_small (n : Nat) (h : n < 10) : numOf n = digOf n := by unfold numOf; rw [Lib.decDigits, dif_pos h]; rfl
theorem numOf_big (n : Nat) (h : ¬ n < 10) : numOf n = numOf (n / 10) ++ digOf (n % 10) := by
  unfold numOf digOf; rw [Lib.decDigits, dif_neg h, strOf_append]

theorem l1Num_small (n : Nat) (w : World) (h : n < 10) :
    Calls Tryz.prog 62 #[.int .i64 n] w fun e w' => e = .returned (.string (numOf n)) ∧ ∃ m, w' = w.drewN m := by
  have hd := digit_at n h
  rw [numOf_small n h]
  have H := Lib.hid hd
  clear hd
  go_enter Tryz.func62, Tryz.ntmps62
  go_wp2
  go_ret
  exact ⟨congrArg (fun s => Ending.returned (Value.string s)) H.out, 0, rfl⟩

/-- The numeral of a natural number: the world draws, and nothing else. -/
theorem l1Num_nat : ∀ (n : Nat) (w : World), n ≤ 1000000000000 →
    Calls Tryz.prog 62 #[.int .i64 n] w fun e w' => e = .returned (.string (numOf n)) ∧ ∃ m, w' = w.drewN m := by
  intro n
  induction n using Nat.strongRecOn with
  | _ n ih =>
    intro w hn
    by_cases h : n < 10
    · exact l1Num_small n w h
    rw [numOf_big n h]
    have ih1 : ∀ w, Calls Tryz.prog 62 #[.int .i64 ((n : Int) / 10)] w fun e w' => e = .returned (.string (numOf (n / 10))) ∧ ∃ m, w' = w.drewN m := fun w => by
      rw [show ((n : Int) / 10) = ((n / 10 : Nat) : Int) from by omega]
      exact ih (n / 10) (by omega) w (by omega)
    have hd := digit_at (n % 10) (by omega)
    have q : ∀ k, Calls Tryz.prog 62 #[.int .i64 ((n : Int) / 10)] (w.drewN k) fun e w'' => e = .returned (.string (numOf (n / 10))) ∧ ∃ m, w'' = w.drewN m := fun k => Calls.quiet_of (ih1 _)
    have I := Lib.hid q
    have hz : (numOf (n / 10)).size + (digOf (n % 10)).size ≤ 9223372036854775807 := by have := numOf_size (n / 10); have := digOf_size (n % 10); omega
    have e1 : IntKind.i64.wrap ((n : Int) / 10) = (n : Int) / 10 := IntWalk.i64_in _ (by omega)
    have e2 : IntKind.i64.wrap ((n : Int) % 10 + 1) = (n : Int) % 10 + 1 := IntWalk.i64_in _ (by omega)
    have e3 : ((n : Int) % 10).toNat = n % 10 := by omega
    have e4 : ((n : Int) % 10 + 1).toNat = n % 10 + 1 := by omega
    have hs : ∀ w : World, (Instr.slice 9 (.string ⟨#[48, 49, 50, 51, 52, 53, 54, 55, 56, 57]⟩) (some (.int .i64 ((n : Int) % 10))) (some (.int .i64 ((n : Int) % 10 + 1))) none).run Tryz.prog w = .ok (.string (digOf (n % 10))) w := fun w => by
      rw [run_slice_string_if _ _ _ _ _ _ _ Tryz.underlying9, if_pos ⟨by omega, by show (n : Int) % 10 + 1 ≤ 10; omega⟩, if_pos ⟨by omega, by omega⟩, e3, e4]
      exact congrArg (fun s => Result.ok (Value.string s) w) hd
    clear e3 e4 ih ih1 hd q
    go_enter Tryz.func62, Tryz.ntmps62
    go_wp2
    go_quiet ((go_at_call 62; exact I.out _))
    go_wp2
    go_ret
    exact ⟨rfl, _, rfl⟩
end Go.Proofs.YtffbljbgmgifnaaGreatDoor
namespace Go.Proofs.YtffbljbgmgifnaaGreatDoor
open Go.RowKit

def TabPow (w : World) : Prop := Lib.TabIs Tryz.prog w "internal/strconv.uint64pow10" .u64 Lib.pow10Tab
/-- The decimal text of a number, as strconv.Itoa has it. -/
def textOf (n : Int) : ByteArray := strOf (Lib.itoa n)
theorem textOf_nat (n : Nat) : textOf n = numOf n := by
  unfold textOf numOf Lib.itoa; rw [if_neg (by omega)]; simp
theorem textOf_pos (n : Int) (h : 0 ≤ n) : textOf n = numOf n.toNat := by
  obtain ⟨k, rfl⟩ := Int.eq_ofNat_of_zero_le h; exact textOf_nat k
def minus : ByteArray := ⟨#[45]⟩
theorem textOf_neg (n : Int) (h : n < 0) : textOf n = minus ++ numOf (-n).toNat := by
  unfold textOf numOf minus Lib.itoa; rw [if_pos h, show n.natAbs = (-n).toNat from by omega]
  exact (strOf_append [45] _).symm
theorem textOf_size (n : Int) (h1 : -1000000000000 ≤ n) (h2 : n ≤ 1000000000000) : (textOf n).size ≤ 1000000000002 := by
  by_cases h : 0 ≤ n
  · rw [textOf_pos n h]; have := numOf_size n.toNat; omega
  · rw [textOf_neg n (by omega)]; have := numOf_size (-n).toNat; have h1 : minus.size = 1 := rfl; rw [ByteArray.size_append]; omega

theorem l1Num_pos (n : Int) (w : World) (h0 : 0 ≤ n) (h1 : n ≤ 1000000000000) :
    Calls Tryz.prog 62 #[.int .i64 n] w fun e w' => e = .returned (.string (numOf n.toNat)) ∧ ∃ m, w' = w.drewN m := by
  obtain ⟨k, rfl⟩ := Int.eq_ofNat_of_zero_le h0; exact l1Num_nat k w (by omega)

/-- The numeral of any number of at most thirteen digits. -/
theorem l1Num_any (n : Int) (w : World) (h0 : -1000000000000 ≤ n) (h1 : n ≤ 1000000000000) :
    Calls Tryz.prog 62 #[.int .i64 n] w fun e w' => e = .returned (.string (textOf n)) ∧ ∃ m, w' = w.drewN m := by
  by_cases h : 0 ≤ n
  · rw [textOf_pos n h]; exact l1Num_pos n w h h1
  rw [textOf_neg n (by omega)]
  have hz : (ByteArray.mk #[45]).size + (numOf (-n).toNat).size ≤ 9223372036854775807 := by have := numOf_size (-n).toNat; have : (ByteArray.mk #[45]).size = 1 := rfl; omega
  have hlt : n < 0 := by omega
  unfold minus
  clear h
  go_enter Tryz.func62, Tryz.ntmps62
  go_wp2_with (go_at_call 62; refine (l1Num_pos _ _ (by omega) (by omega)).mono ?_; rintro e w' ⟨rfl, m, rfl⟩)
  go_ret
  exact ⟨rfl, _, rfl⟩

end Go.Proofs.YtffbljbgmgifnaaGreatDoor
namespace Go.Proofs.YtffbljbgmgifnaaGreatDoor
open Go.RowKit
theorem gPow : Tryz.prog.globalNamed "internal/strconv.uint64pow10" = some 0 := by kernel_rfl
theorem gPowType : (Tryz.prog.globals[0]?).map (·.type) = some 111 := by kernel_rfl
theorem cellsPow : Tryz.prog.cellsOf 111 = 20 := by kernel_rfl
theorem cellsU64 : Tryz.prog.cellsOf 49 = 1 := by kernel_rfl
theorem tabPow_of {W : World} (h : laidMetH Tryz.prog [("math/bits.deBruijn32tab", Rows.laid_math_bits_deBruijn32tab), ("math/bits.deBruijn64tab", Rows.laid_math_bits_deBruijn64tab), ("internal/strconv.uint64pow10", Rows.laid_internal_strconv_uint64pow10)] W) : TabPow W :=
  Lib.tabIs_of_head (rest := []) gPow gPowType Tryz.underlying111 Tryz.underlying49 cellsU64 cellsPow (laidMet.tail (laidMet.tail h))
theorem tabPow_below {w w' : World} (h : TabPow w) (hb : Below w.heap.size w w') : TabPow w' := Go.Joins.tab_stays gPow h hb (Nat.le_refl _)
end Go.Proofs.YtffbljbgmgifnaaGreatDoor
namespace Go.Proofs.YtffbljbgmgifnaaGreatDoor
open Go.RowKit

theorem drawn_below {P : Program} {f : FuncId} {args : Array Value} {v : Value} {W : World} (h : Calls P f args W fun e w' => e = .returned v ∧ ∃ m, w' = W.drewN m) : Calls P f args W fun e w' => e = .returned v ∧ Below W.heap.size W w' :=
  h.mono fun _ _ ⟨he, _, hw⟩ => ⟨he, hw ▸ bel_drawn _ _⟩
theorem itoa_any (n : Int) (h0 : -999999 ≤ n) (h1 : n ≤ 999999) (w : World) (ht : TabPow w) :
    Calls Tryz.prog 60 #[.int .i64 n] w fun e w' => e = .returned (.string (textOf n)) ∧ Below w.heap.size w w' :=
  (Tryz.strconv_Itoa n (by omega) (by omega) w ht).mono fun _ _ ⟨he, _, _, hw⟩ => ⟨he, hw ▸ Lib.below_grow _ _ (Nat.le_refl _) _ _⟩
theorem num_any (n : Int) (h0 : -999999 ≤ n) (h1 : n ≤ 999999) (w : World) : Calls Tryz.prog 62 #[.int .i64 n] w fun e w' => e = .returned (.string (textOf n)) ∧ Below w.heap.size w w' := drawn_below (l1Num_any _ w (by omega) (by omega))
theorem text_bd {n : Int} (h0 : 0 ≤ n) (h1 : n ≤ 999999) : (textOf n).size ≤ 1000000000002 := textOf_size n (by omega) (by omega)
end Go.Proofs.YtffbljbgmgifnaaGreatDoor
namespace Go.Proofs.YtffbljbgmgifnaaGreatDoor

/-- The reader with an id, and where it stands. -/
def rdSel (xs : List VReader) (id : Int) : Option (Nat × VReader) := if 0 ≤ rdFind xs id then (xs[(rdFind xs id).toNat]?).map fun s => ((rdFind xs id).toNat, s) else none
theorem rdSel_ways (xs : List VReader) (id : Int) : (rdFind xs id = -1 ∧ rdSel xs id = none) ∨ ∃ (i : Nat) (s : VReader), areRd xs = true ∧ rdFind xs id = (i : Int) ∧ xs[i]? = some s ∧ i < xs.length ∧ s.Id = id ∧ rdSel xs id = some (i, s) := by
  unfold rdSel
  by_cases ha : areRd xs = true
  · rcases firstOf_cases (fun s : VReader => s.Id == id) xs with ⟨h1, _⟩ | ⟨i, s, h1, h2, h3, _⟩
    · have e : rdFind xs id = -1 := by unfold rdFind; rw [if_pos ha, h1]
      exact .inl ⟨e, by rw [e]; rfl⟩
    · have e : rdFind xs id = (i : Int) := by unfold rdFind; rw [if_pos ha, h1]
      refine .inr ⟨i, s, ha, e, h2, (List.getElem?_eq_some_iff.1 h2).1, by simpa using h3, ?_⟩
      rw [e, if_pos (by omega), Int.toNat_natCast, h2]; rfl
  · have e : rdFind xs id = -1 := by unfold rdFind; rw [if_neg ha]
    exact .inl ⟨e, by rw [e]; rfl⟩
def centsB (c : Int) : Bool := inB c 1 10000
/-- The list in which a reader is replaced, and whether it is valid. -/
def rdWith (xs : List VReader) (i : Nat) (r : VReader) : List VReader × Bool := if areRd (xs.set i r) = true then (xs.set i r, true) else ([], false)
def rdFine (xs : List VReader) (id c : Int) : List VReader × Bool :=
  match rdSel xs id with
  | none => ([], false)
  | some (i, s) => if centsB c = true then rdWith xs i ⟨s.Id, s.Name, s.Joined, s.Class, s.Fines + c⟩ else ([], false)
def rdPay (xs : List VReader) (id c : Int) : List VReader × Int × Bool :=
  match rdSel xs id with
  | none => ([], 0, false)
  | some (i, s) => if centsB c = true then ((rdWith xs i ⟨s.Id, s.Name, s.Joined, s.Class, s.Fines - min c s.Fines⟩).1, c - min c s.Fines, (rdWith xs i ⟨s.Id, s.Name, s.Joined, s.Class, s.Fines - min c s.Fines⟩).2) else ([], 0, false)
def ripeB (s : VReader) (day : Int) : Bool := decide (s.Class < 3) && (s.Fines == 0 && decide (365 * s.Class ≤ day - s.Joined))
def rdRaise (xs : List VReader) (id day : Int) : List VReader × Bool :=
  match rdSel xs id with
  | none => ([], false)
  | some (i, s) => if (dayB day && ripeB s day) = true then rdWith xs i ⟨s.Id, s.Name, s.Joined, s.Class + 1, s.Fines⟩ else ([], false)
def rdLast (xs : List VReader) : Int := match xs.getLast? with | some s => s.Id + 1 | none => 1
def rdJoin (xs : List VReader) (nm : ByteArray) (d : Int) : List VReader × Int × Bool :=
  if (areRd xs && areRd (xs ++ [⟨rdLast xs, nm, d, 1, 0⟩])) = true then (xs ++ [⟨rdLast xs, nm, d, 1, 0⟩], rdLast xs, true) else ([], 0, false)
def mayOf (cl : Int) : Int := if cl = 1 then 2 else if cl = 2 then 5 else 10
def rdMay (xs : List VReader) (id home : Int) : Int × Bool :=
  match rdSel xs id with
  | none => (0, false)
  | some (_, s) => if inB home 0 99 = true then (if 500 ≤ s.Fines then 0 else max 0 (mayOf s.Class - home), true) else (0, false)
def IsReader_0 (s : VReader) : Bool := s.ok
def AreReaders_0 (xs : List VReader) : Bool := areRd xs
def FineReader_0 (xs : List VReader) (id c : Int) : List VReader := (rdFine xs id c).1
def FineReader_1 (xs : List VReader) (id c : Int) : Bool := (rdFine xs id c).2
def PayFines_0 (xs : List VReader) (id c : Int) : List VReader := (rdPay xs id c).1
def PayFines_1 (xs : List VReader) (id c : Int) : Int := (rdPay xs id c).2.1
def PayFines_2 (xs : List VReader) (id c : Int) : Bool := (rdPay xs id c).2.2
def RaiseClass_0 (xs : List VReader) (id d : Int) : List VReader := (rdRaise xs id d).1
def RaiseClass_1 (xs : List VReader) (id d : Int) : Bool := (rdRaise xs id d).2
def JoinReader_0 (xs : List VReader) (nm : ByteArray) (d : Int) : List VReader := (rdJoin xs nm d).1
def JoinReader_1 (xs : List VReader) (nm : ByteArray) (d : Int) : Int := (rdJoin xs nm d).2.1
def JoinReader_2 (xs : List VReader) (nm : ByteArray) (d : Int) : Bool := (rdJoin xs nm d).2.2
def MayTake_0 (xs : List VReader) (id h : Int) : Int := (rdMay xs id h).1
def MayTake_1 (xs : List VReader) (id h : Int) : Bool := (rdMay xs id h).2
def RipeReaders_0 (xs : List VReader) (d : Int) : List Int := if (areRd xs && dayB d) = true then (xs.filter fun s => ripeB s d).map VReader.Id else []
def RipeReaders_1 (xs : List VReader) (d : Int) : Bool := areRd xs && dayB d
theorem areRd_len {xs : List VReader} (h : areRd xs = true) : xs.length ≤ 10 := by unfold areRd at h; simp at h; exact h.2
theorem areRd_ok {xs : List VReader} (h : areRd xs = true) {s : VReader} (hs : s ∈ xs) : s.ok = true := by
  unfold areRd at h
  simp only [Bool.and_eq_true] at h
  exact upB_ok h.1 hs
theorem rdOk_iff {s : VReader} : s.ok = true ↔ (1 ≤ s.Id ∧ s.Id ≤ 999) ∧ wordB s.Name = true ∧ (0 ≤ s.Joined ∧ s.Joined ≤ 4000) ∧ (1 ≤ s.Class ∧ s.Class ≤ 3) ∧ (0 ≤ s.Fines ∧ s.Fines ≤ 10000) := by
  unfold VReader.ok dayB; simp only [Bool.and_eq_true, inB_iff]
theorem word_size {s : ByteArray} (h : wordB s = true) : 1 ≤ s.size ∧ s.size ≤ 10 := by
  unfold wordB at h
  simp only [Bool.and_eq_true, inB_iff] at h
  omega
theorem rdOk_small {s : VReader} (h : s.ok = true) : s.small := by
  have := (word_size (rdOk_iff.1 h).2.1).2
  unfold VReader.small maxLen
  omega
theorem rdWith_ok (xs : List VReader) (i : Nat) (r : VReader) : (rdWith xs i r).1.length ≤ 10 ∧ ∀ s ∈ (rdWith xs i r).1, s.ok = true := by
  unfold rdWith
  split
  · rename_i h; exact ⟨areRd_len h, fun s hs => areRd_ok h hs⟩
  · exact ⟨by simp, by simp⟩
theorem rdFine_ok (xs : List VReader) (id c : Int) : (rdFine xs id c).1.length ≤ 10 ∧ ∀ s ∈ (rdFine xs id c).1, s.ok = true := by
  unfold rdFine
  split
  · exact ⟨by simp, by simp⟩
  · split
    · exact rdWith_ok _ _ _
    · exact ⟨by simp, by simp⟩
theorem rdPay_ok (xs : List VReader) (id c : Int) : (rdPay xs id c).1.length ≤ 10 ∧ ∀ s ∈ (rdPay xs id c).1, s.ok = true := by
  unfold rdPay
  split
  · exact ⟨by simp, by simp⟩
  · split
    · exact rdWith_ok _ _ _
    · exact ⟨by simp, by simp⟩
theorem rdRaise_ok (xs : List VReader) (id c : Int) : (rdRaise xs id c).1.length ≤ 10 ∧ ∀ s ∈ (rdRaise xs id c).1, s.ok = true := by
  unfold rdRaise
  split
  · exact ⟨by simp, by simp⟩
  · split
    · exact rdWith_ok _ _ _
    · exact ⟨by simp, by simp⟩
theorem rdJoin_ok (xs : List VReader) (nm : ByteArray) (d : Int) : (rdJoin xs nm d).1.length ≤ 10 ∧ ∀ s ∈ (rdJoin xs nm d).1, s.ok = true := by
  unfold rdJoin
  split
  · rename_i h
    simp only [Bool.and_eq_true] at h
    exact ⟨areRd_len h.2, fun s hs => areRd_ok h.2 hs⟩
  · exact ⟨by simp, by simp⟩
theorem FineReader_0_len (xs : List VReader) (id c : Int) (_ : xs.length ≤ 1048576) (_ : ∀ s ∈ xs, s.sized) : (FineReader_0 xs id c).length ≤ 1000000 := Nat.le_trans (rdFine_ok xs id c).1 (by omega)
theorem FineReader_0_small (xs : List VReader) (id c : Int) (_ : xs.length ≤ 1048576) (_ : ∀ s ∈ xs, s.sized) : ∀ s ∈ FineReader_0 xs id c, s.small := fun s hs => rdOk_small ((rdFine_ok xs id c).2 s hs)
theorem PayFines_0_len (xs : List VReader) (id c : Int) (_ : xs.length ≤ 1048576) (_ : ∀ s ∈ xs, s.sized) : (PayFines_0 xs id c).length ≤ 1000000 := Nat.le_trans (rdPay_ok xs id c).1 (by omega)
theorem PayFines_0_small (xs : List VReader) (id c : Int) (_ : xs.length ≤ 1048576) (_ : ∀ s ∈ xs, s.sized) : ∀ s ∈ PayFines_0 xs id c, s.small := fun s hs => rdOk_small ((rdPay_ok xs id c).2 s hs)
theorem RaiseClass_0_len (xs : List VReader) (id c : Int) (_ : xs.length ≤ 1048576) (_ : ∀ s ∈ xs, s.sized) : (RaiseClass_0 xs id c).length ≤ 1000000 := Nat.le_trans (rdRaise_ok xs id c).1 (by omega)
theorem RaiseClass_0_small (xs : List VReader) (id c : Int) (_ : xs.length ≤ 1048576) (_ : ∀ s ∈ xs, s.sized) : ∀ s ∈ RaiseClass_0 xs id c, s.small := fun s hs => rdOk_small ((rdRaise_ok xs id c).2 s hs)
theorem JoinReader_0_len (xs : List VReader) (nm : ByteArray) (d : Int) (_ : xs.length ≤ 1048576) (_ : ∀ s ∈ xs, s.sized) (_ : nm.size ≤ 1048576) : (JoinReader_0 xs nm d).length ≤ 1000000 := Nat.le_trans (rdJoin_ok xs nm d).1 (by omega)
theorem JoinReader_0_small (xs : List VReader) (nm : ByteArray) (d : Int) (_ : xs.length ≤ 1048576) (_ : ∀ s ∈ xs, s.sized) (_ : nm.size ≤ 1048576) : ∀ s ∈ JoinReader_0 xs nm d, s.small := fun s hs => rdOk_small ((rdJoin_ok xs nm d).2 s hs)
theorem RipeReaders_0_len (xs : List VReader) (d : Int) (_ : xs.length ≤ 1048576) (_ : ∀ s ∈ xs, s.sized) : (RipeReaders_0 xs d).length ≤ 1000000 := by
  unfold RipeReaders_0
  split
  · rename_i h
    simp only [Bool.and_eq_true] at h
    rw [List.length_map]
    have := areRd_len h.1
    exact Nat.le_trans (List.length_filter_le _ _) (by omega)
  · simp
end Go.Proofs.YtffbljbgmgifnaaGreatDoor
