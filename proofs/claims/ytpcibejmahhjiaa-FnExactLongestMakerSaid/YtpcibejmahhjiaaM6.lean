/- Texts in one: Ord, FirstCommonP, EndMakerP, LongestMakerP, Mi4, Mi5, Ms, Ms2. -/
import Derived.Test.YtpcibejmahhjiaaM2
import Derived.Lib.Small
import Derived.Sort.Grow
import Derived.StillTailTactics
import Derived.Test.YtpcibejmahhjiaaM5
import Derived.Test.YtpcibejmahhjiaaM3
import Derived.Test.YtpcibejmahhjiaaM4
import Derived.Deep.AppendLies
namespace Go.Proofs.Ytpcibejmahhjiaa
open Go.RowKit

theorem isNaN_any (x : Int) (w : World) : Calls Try.prog 100 #[.int .i64 x] w fun e w' => e = .returned (.bool false) ∧ w = w' := by
  go_enter Try.func100, Try.ntmps100
  go_wp2
  go_ret
  exact ⟨by first | rfl | simp, rfl⟩
set_option maxHeartbeats 800000 in
theorem compare_any (x y : Int) (w : World) : Calls Try.prog 87 #[.int .i64 x, .int .i64 y] w fun e w' => e = .returned (.int .i64 (Lib.compareInt x y)) ∧ w = w' := by
  by_cases h1 : x < y
  · go_enter Try.func87, Try.ntmps87
    go_wp2_with (go_at_call 100; refine (isNaN_any _ _).mono ?_; rintro e w' ⟨rfl, rfl⟩)
    go_ret
    exact ⟨ret_int (by unfold Lib.compareInt; rw [if_pos h1]), rfl⟩
  · by_cases h2 : y < x
    · go_enter Try.func87, Try.ntmps87
      go_wp2_with (go_at_call 100; refine (isNaN_any _ _).mono ?_; rintro e w' ⟨rfl, rfl⟩)
      go_ret
      exact ⟨ret_int (by unfold Lib.compareInt; rw [if_neg (by omega), if_pos (by omega)]), rfl⟩
    · go_enter Try.func87, Try.ntmps87
      go_wp2_with (go_at_call 100; refine (isNaN_any _ _).mono ?_; rintro e w' ⟨rfl, rfl⟩)
      go_ret
      exact ⟨ret_int (by unfold Lib.compareInt; rw [if_neg (by omega), if_neg (by omega)]), rfl⟩
theorem grown2 (w : World) (o1 o2 : Obj) : ∃ os, (w.alloc o1).alloc o2 = Sort.grow w os := ⟨#[o1] ++ #[o2], by rw [Sort.alloc_eq_grow, Sort.alloc_eq_grow, Sort.grow_grow]⟩
end Go.Proofs.Ytpcibejmahhjiaa
namespace Go.Proofs.Ytpcibejmahhjiaa
open Go.RowKit
def FirstCommon_Post (z0 : List VMaker) (z1 : Int) (z2 : Int) (w : World) (e : Ending) (w' : World) : Prop :=
  e = .returned (.tuple #[.int .i64 (FirstCommon_0 z0 z1 z2), .bool (FirstCommon_1 z0 z1 z2)]) ∧ Below w.heap.size w w'
end Go.Proofs.Ytpcibejmahhjiaa
namespace Go.Proofs.Ytpcibejmahhjiaa
open Go.RowKit
def EndMaker_Post (z0 : List VMaker) (z1 : Int) (z2 : Int) (z3 : Int) (w : World) (e : Ending) (w' : World) : Prop :=
  ∃ v0 : Value, e = .returned (.tuple #[v0, .bool (EndMaker_1 z0 z1 z2 z3)]) ∧ w'.ownsRow w.heap.size 42 5 v0 (EndMaker_0 z0 z1 z2 z3).length (cellsMaker (EndMaker_0 z0 z1 z2 z3)) ∧ Below w.heap.size w w'
end Go.Proofs.Ytpcibejmahhjiaa
namespace Go.Proofs.Ytpcibejmahhjiaa
open Go.RowKit
def LongestMaker_Post (z0 : List VMaker) (w : World) (e : Ending) (w' : World) : Prop :=
  e = .returned (.tuple #[.int .i64 (LongestMaker_0 z0), .int .i64 (LongestMaker_1 z0), .bool (LongestMaker_2 z0)]) ∧ Below w.heap.size w w'
end Go.Proofs.Ytpcibejmahhjiaa
namespace Go.Proofs.Ytpcibejmahhjiaa
open Go.RowKit

theorem mk_sized_small {xs : List VMaker} (h : ∀ s ∈ xs, s.sized) : ∀ s ∈ xs, s.small := fun s hs => sized_smallMaker s (h s hs)
theorem set_same {α : Type} {l : List α} {i : Nat} {v : α} (h : l[i]? = some v) : l.set i v = l := by
  apply List.ext_getElem?
  intro j
  by_cases e : i = j
  · subst e; obtain ⟨hl, hv⟩ := List.getElem?_eq_some_iff.1 h; rw [List.getElem?_set_self hl, h]
  · rw [List.getElem?_set_ne e]
set_option maxHeartbeats 3200000 in
set_option maxRecDepth 100000 in
theorem implGapYears_any (a : Option Addr) (len cap : Nat) (xs : List VMaker) (id : Int) (w : World) (h : IsMakerS w a len cap xs) (_ : xs.length ≤ 1048576) (hz : ∀ s ∈ xs, s.sized) :
    Calls Try.prog 53 #[.slice a len cap, .int .i64 id] w (GapYears_Post xs id w) := by
  have S := Lib.hid h
  have HZ := Lib.hid hz
  clear h hz
  go_enter Try.func53, Try.ntmps53
  go_wp2_with fail
  refine (lineFrom_any _ _ _ xs id _ S.out).mono ?_
  rintro e w2 ⟨v, rfl, hown, hb⟩
  have B2 := Lib.hid hb
  obtain ⟨a1, c1, rfl, his, _⟩ := isMakerS_own hown (fun s hs => sized_smallMaker s (HZ.out s (lineMk_in s hs)))
  have LL := lineMk_len xs id
  have S2 := Lib.hid his
  have E := Lib.hid (lineMk_pos xs id)
  have E0 := Lib.hid (show GapYears_0 xs id = gaps (lineMk xs id) from rfl)
  have OK := Lib.hid (lineMk_ok xs id)
  obtain ⟨L, hL⟩ : ∃ L, lineMk xs id = L := ⟨_, rfl⟩
  rw [hL] at S2 E E0 LL OK ⊢
  clear hown his hb hL
  go_wp2
  go_loopw [8, 7] (fun i g wr => ∃ k : Nat, (k + 1 ≤ L.length ∨ k = 0) ∧ i = .int .i64 ((k + 1 : Nat) : Int) ∧ g = .int .i64 (gapsTo L k) ∧ Below w.heap.size w wr ∧ Below w2.heap.size w2 wr) (fun i _ _ => L.length - (intOf i).toNat)
  case atStart => exact ⟨0, .inr rfl, rfl, rfl, B2.out, Below.refl _ _⟩
  case round =>
    obtain ⟨k, hk, rfl, rfl, hbel, hbel2⟩ := hrel
    have B := Lib.hid hbel
    have BB := Lib.hid hbel2
    by_cases hlt : k + 1 < L.length
    · obtain ⟨s, hs⟩ : ∃ s, L[k + 1]? = some s := ⟨L[k + 1]'hlt, List.getElem?_eq_getElem _⟩
      obtain ⟨p, hp⟩ : ∃ p, L[k]? = some p := ⟨L[k]'(by omega), List.getElem?_eq_getElem _⟩
      obtain ⟨b, o, rfl, hbw, hat⟩ := (S2.out.below hbel2).at (by omega)
      obtain ⟨c0, c1, c2, c3, c4, _⟩ := hat (k + 1) s hs
      obtain ⟨d0, d1, d2, d3, d4, _⟩ := hat k p hp
      have hi0 : (0 : Int) ≤ (k : Int) := by omega
      have hi1 : (k : Int) < (L.length : Int) := by omega
      have hi2 : (0 : Int) ≤ (k : Int) + 1 := by omega
      have hi3 : (k : Int) + 1 < (L.length : Int) := by omega
      have o1 := mkOk_iff.1 (OK.out s (List.mem_of_getElem? hs))
      have o2 := mkOk_iff.1 (OK.out p (List.mem_of_getElem? hp))
      have g0 := gapsTo_bd OK.out k
      have T := Lib.hid (gapsTo_succ hp hs)
      obtain ⟨g, hg⟩ : ∃ g, gapsTo L k = g := ⟨_, rfl⟩
      rw [hg] at T g0 ⊢
      have hw1 : IntKind.i64.wrap (s.From - p.Until) = s.From - p.Until := IntWalk.i64_in _ (by omega)
      have hw2 : IntKind.i64.wrap (s.From - p.Until - 1) = s.From - p.Until - 1 := IntWalk.i64_in _ (by omega)
      have hw3 : IntKind.i64.wrap (g + (s.From - p.Until - 1)) = g + (s.From - p.Until - 1) := IntWalk.i64_in _ (by omega)
      clear hbel hbel2 hs hp hat hg o1 o2 g0
      go_wp2
      go_quiet (fail)
      have bd := bel_drawn wr nq
      have BX := Lib.hid (Below.then' B.out bd)
      have BX2 := Lib.hid (Below.then' BB.out bd)
      clear bd
      go_wp2
      go_roundw
      case rel => exact ⟨k + 1, .inl (by omega), by go_num, by rw [T.out], BX.out, BX2.out⟩
      case measure => simp [intOf]; omega
    · have F := Lib.hid (show gapsTo L k = GapYears_0 xs id from by
        rw [E0.out]; unfold gaps
        rw [show L.length - 1 = k from by omega])
      obtain ⟨g, hg⟩ : ∃ g, gapsTo L k = g := ⟨_, rfl⟩
      rw [hg] at F ⊢
      clear hbel hbel2 hg
      go_wp2
      go_ret2
      exact ⟨by rw [← F.out]; unfold GapYears_1; rw [← E.out]; rfl, B.out⟩
theorem yearsOf_any (s : VMaker) (w : World) (hs : s.ok = true) :
    Calls Try.prog 88 #[.agg #[.int .i64 s.Id, .string s.Name, .int .i64 s.From, .int .i64 s.Until, .int .i64 s.Heir]] w fun e w' => e = .returned (.int .i64 (mkWork s)) ∧ Below w.heap.size w w' := by
  have o1 := mkOk_iff.1 hs
  have hw1 : IntKind.i64.wrap (s.Until - s.From) = s.Until - s.From := IntWalk.i64_in _ (by omega)
  have hw2 : IntKind.i64.wrap (s.Until - s.From + 1) = s.Until - s.From + 1 := IntWalk.i64_in _ (by omega)
  clear o1 hs
  go_enter Try.func88, Try.ntmps88
  go_wp2
  go_ret
  exact ⟨rfl, bel_al1 _ _⟩
set_option maxHeartbeats 3200000 in
set_option maxRecDepth 100000 in
theorem longCmp_any (x m : VMaker) (w : World) (hx : x.ok = true) (hm : m.ok = true) :
    Calls Try.prog 86 #[.agg #[.int .i64 x.Id, .string x.Name, .int .i64 x.From, .int .i64 x.Until, .int .i64 x.Heir], .agg #[.int .i64 m.Id, .string m.Name, .int .i64 m.From, .int .i64 m.Until, .int .i64 m.Heir]] w fun e w' => e = .returned (.int .i64 (Lib.compareInt (mkWork x) (mkWork m))) ∧ Below w.heap.size w w' := by
  have X1 := Lib.hid ((BoxMaker.new w 42 x _ rfl).below (bel_al1 _ (.cells #[.int .i64 m.Id, .string m.Name, .int .i64 m.From, .int .i64 m.Until, .int .i64 m.Heir] 42)))
  have X2 := Lib.hid (BoxMaker.new (w.alloc (.cells #[.int .i64 x.Id, .string x.Name, .int .i64 x.From, .int .i64 x.Until, .int .i64 x.Heir] 42)) 42 m _ (size_al _ _))
  have B0 := Lib.hid (bel_al2 w (.cells #[.int .i64 x.Id, .string x.Name, .int .i64 x.From, .int .i64 x.Until, .int .i64 x.Heir] 42) (.cells #[.int .i64 m.Id, .string m.Name, .int .i64 m.From, .int .i64 m.Until, .int .i64 m.Heir] 42))
  obtain ⟨u, hu⟩ : ∃ u, mkWork x = u := ⟨_, rfl⟩
  obtain ⟨v, hv⟩ : ∃ v, mkWork m = v := ⟨_, rfl⟩
  have C1 := Lib.hid (fun W : World => hu ▸ yearsOf_any x W hx)
  have C2 := Lib.hid (fun W : World => hv ▸ yearsOf_any m W hm)
  have C3 := Lib.hid (fun W : World => (compare_any u v W).mono (fun e w' h => (⟨h.1, by rw [← h.2]; exact Below.refl _ _⟩ : e = .returned (.int .i64 (Lib.compareInt u v)) ∧ Below W.heap.size W w')))
  rw [hu, hv]
  obtain ⟨z, hz⟩ : ∃ z, Lib.compareInt u v = z := ⟨_, rfl⟩
  rw [hz] at C3 ⊢
  clear hu hv hz hx hm
  go_enter Try.func86, Try.ntmps86
  go_wp2
  refine wp_world (fun W => BoxMaker W w.heap.size x ∧ BoxMaker W (w.heap.size + 1) m ∧ Below w.heap.size w W) ⟨X1.out, X2.out, B0.out⟩ ?_
  rintro W ⟨⟨e0, e1, e2, e3, e4⟩, ⟨f0, f1, f2, f3, f4⟩, hbw⟩
  have BW := Lib.hid hbw
  have k0 := cell_regrown e0
  have k1 := cell_regrown e1
  have k2 := cell_regrown e2
  have k3 := cell_regrown e3
  have k4 := cell_regrown e4
  have l0 := cell_regrown f0
  have l1 := cell_regrown f1
  have l2 := cell_regrown f2
  have l3 := cell_regrown f3
  have l4 := cell_regrown f4
  clear hbw e0 e1 e2 e3 e4 f0 f1 f2 f3 f4
  have q1 := below_at (W := W) (fun W' _ => C1.out W')
  have q2 := below_at (W := W) (fun W' _ => C2.out W')
  have q3 := below_at (W := W) (fun W' _ => C3.out W')
  refine wp_region_quiet_below (by kernel_rfl) (by kernel_rfl) ?_
  repeat (first | go_big_quiet_step (first | (with_reducible exact q1 _ _) | (with_reducible exact q2 _ _) | (with_reducible exact q3 _ _)) | quiet_step (first | (with_reducible exact q1 _ _) | (with_reducible exact q2 _ _) | (with_reducible exact q3 _ _)))
  refine wpQuiet_nil ?_
  intro W2 hw2
  have B2 := Lib.hid (Below.then' BW.out (below_of_re hw2))
  clear hw2 q1 q2 q3 k0 k1 k2 k3 k4 l0 l1 l2 l3 l4
  go_wp2
  go_ret
  exact ⟨rfl, B2.out⟩
theorem compare_pos (a b : Int) : decide (0 < Lib.compareInt a b) = decide (b < a) := by
  unfold Lib.compareInt
  by_cases h1 : a < b
  · rw [if_pos h1, decide_eq_decide]; omega
  · rw [if_neg h1]
    by_cases h2 : b < a
    · rw [if_pos h2, decide_eq_decide]; omega
    · rw [if_neg h2, decide_eq_decide]; omega
set_option maxHeartbeats 3200000 in
set_option maxRecDepth 100000 in
theorem copyMakers_any (a : Option Addr) (len cap : Nat) (xs : List VMaker) (w : World) (h : IsMakerS w a len cap xs) (hx : xs.length ≤ 1048576) (hz : ∀ s ∈ xs, s.sized) :
    Calls Try.prog 84 #[.slice a len cap] w (MakerRow xs w) := by
  have hm := h.2.2.1
  have hcl := h.2.1
  unfold maxLen at hm
  obtain rfl := h.1
  have S := Lib.hid h
  have HZ := Lib.hid hz
  clear h hz
  go_enter Try.func84, Try.ntmps84
  go_wp2_with fail
  refine (cloneMaker_any _ _ _ xs _ S.out hx).mono ?_
  rintro e w1 ⟨v, rfl, hown, hb⟩
  have hv : ∃ a1 c1, v = .slice a1 xs.length c1 := by
    rcases hown.2 with ⟨e1, e2⟩ | ⟨g, c, _, e1, _⟩
    · exact ⟨none, 0, by rw [e1, e2]⟩
    · exact ⟨_, _, e1⟩
  obtain ⟨a1, c1, rfl⟩ := hv
  have O1 := Lib.hid hown
  have B1 := Lib.hid hb
  clear hown hb
  go_wp2
  go_loopw [10, 4] (fun i _ wr => ∃ k : Nat, k ≤ xs.length ∧ i = .int .i64 k ∧ wr.ownsRow w.heap.size 42 5 (.slice a1 xs.length c1) xs.length (cellsMaker xs) ∧ Below w.heap.size w wr) (fun i _ _ => xs.length - (intOf i).toNat)
  case atStart => exact ⟨0, Nat.zero_le _, rfl, O1.out, B1.out⟩
  case round =>
    obtain ⟨k, hk, rfl, hown, hbel⟩ := hrel
    have O := Lib.hid hown
    have B := Lib.hid hbel
    by_cases hlt : k < xs.length
    · obtain ⟨s, hs⟩ : ∃ s, xs[k]? = some s := ⟨xs[k]'hlt, List.getElem?_eq_getElem _⟩
      obtain ⟨g, c, e1, hg, hn, hc⟩ := own_some hown (by omega)
      cases e1
      obtain ⟨b, o, rfl, _, hat⟩ := (S.out.below hbel).at (by omega)
      obtain ⟨d0, d1, d2, d3, d4, _⟩ := hat k s hs
      have K := Lib.hid hs
      have NS := Lib.hid (HZ.out s (List.mem_of_getElem? hs))
      have hi0 : (0 : Int) ≤ (k : Int) := by omega
      have hi1 : (k : Int) < (xs.length : Int) := by omega
      clear hown hbel hs hat
      go_wp2_with fail
      refine (str_clone s.Name _ NS.out).mono ?_
      rintro e w2 ⟨rfl, hb⟩
      have hb2 := Below.then' (bel_al1 _ _) hb
      have O2 := Lib.hid (ownsRow_below O.out hb2)
      have B2 := Lib.hid (Below.then' B.out hb2)
      clear hb hb2 d0 d1 d2 d3 d4
      have f1 := O2.out.frozenAt (k * 5 + 1)
      obtain ⟨u1, d1⟩ := own_cell O2.out (k * 5 + 1) (by rw [cellsMaker_len]; omega)
      have T := Lib.hid (O2.out.stored (k * 5 + 1) (.string s.Name))
      have hsz := B2.out.size
      go_wp2
      go_roundw
      case rel =>
        refine ⟨k + 1, by omega, by go_num, ?_, B2.out.grown T.out.2 hsz (fun j e => (O2.out.lt j e).1)⟩
        have h := T.out.1
        rw [set_same (cellsMaker_at K.out 1 (by decide))] at h
        exact h
      case measure => simp [intOf]; omega
    · obtain rfl : k = xs.length := by omega
      have hcc : c1 ≤ 9223372036854775807 ∧ xs.length ≤ c1 := by
        rcases hown.2 with ⟨e1, e2⟩ | ⟨g, c, _, e1, _, _, h1, h2, _⟩
        · simp only [Value.slice.injEq] at e1; omega
        · cases e1; unfold maxLen at h2; omega
      clear hbel hown
      go_wp2
      go_ret
      exact ⟨_, rfl, O.out, B.out⟩
end Go.Proofs.Ytpcibejmahhjiaa
namespace Go.Proofs.Ytpcibejmahhjiaa
open Go.RowKit

set_option maxHeartbeats 3200000 in
set_option maxRecDepth 100000 in
theorem implLongestMaker_any (a : Option Addr) (len cap : Nat) (xs : List VMaker) (w : World) (h : IsMakerS w a len cap xs) (_ : xs.length ≤ 1048576) (_ : ∀ s ∈ xs, s.sized) :
    Calls Try.prog 55 #[.slice a len cap] w (LongestMaker_Post xs w) := by
  have hm := h.2.2.1
  have hcl := h.2.1
  unfold maxLen at hm
  obtain rfl := h.1
  have S := Lib.hid h
  clear h
  obtain ⟨q, hq⟩ : ∃ q, areMk xs = q := ⟨_, rfl⟩
  have Q := Lib.hid hq
  clear hq
  by_cases h0 : xs = []
  · subst h0
    have E := Lib.hid (show mkSome ([] : List VMaker) = false from by unfold mkSome; simp)
    go_enter Try.func55, Try.ntmps55
    go_wp2_with fail
    refine (areMk_any _ _ _ [] _ S.out).mono ?_
    rintro e w1 ⟨rfl, hb⟩
    rw [Q.out]
    have B1 := Lib.hid hb
    clear hb
    cases q
    · go_wp2
      go_ret3
      exact ⟨by unfold LongestMaker_0 LongestMaker_1 LongestMaker_2; rw [E.out]; rfl, B1.out⟩
    · go_wp2
      go_ret3
      exact ⟨by unfold LongestMaker_0 LongestMaker_1 LongestMaker_2; rw [E.out]; rfl, B1.out⟩
  have hp : 0 < xs.length := by cases xs with | nil => exact absurd rfl h0 | cons => simp
  have hp2 : ¬ xs.length = 0 := by omega
  have hp3 : ((xs.length : Int) == 0) = false := by simp; exact h0
  go_enter Try.func55, Try.ntmps55
  go_wp2_with fail
  refine (areMk_any _ _ _ xs _ S.out).mono ?_
  rintro e w1 ⟨rfl, hb⟩
  rw [Q.out]
  have B1 := Lib.hid hb
  have S1 := Lib.hid (S.out.below hb)
  clear hb
  cases q
  · have E := Lib.hid (show mkSome xs = false from by unfold mkSome; rw [Q.out]; rfl)
    go_wp2
    go_ret3
    exact ⟨by unfold LongestMaker_0 LongestMaker_1 LongestMaker_2; rw [E.out]; rfl, B1.out⟩
  have E := Lib.hid (show mkSome xs = true from by unfold mkSome; rw [Q.out, decide_eq_true hp]; rfl)
  have OK := Lib.hid (fun (m : VMaker) (hm : m ∈ xs) => areMk_ok Q.out hm)
  have LI := Lib.hid (longest_in hp)
  go_wp2_with fail
  refine (maxFuncMaker_any 86 #[] (fun x m => Lib.compareInt (mkWork x) (mkWork m)) _ _ _ xs _ S1.out hp (enters_fn Try.func86 (by kernel_rfl) (by kernel_rfl)) (fun W x m hx hm _ => by
    have h1 := longCmp_any x m W (OK.out x hx) (OK.out m hm)
    simpa using h1)).mono ?_
  rintro e w2 ⟨⟨s, hs, rfl⟩, hb⟩
  have B2 := Lib.hid (Below.then' B1.out hb)
  have HS := Lib.hid (show longestMk xs = s from by
    rw [hs]; unfold longestMk
    rw [show (fun x m => decide (0 < Lib.compareInt (mkWork x) (mkWork m))) = fun x m => decide (mkWork m < mkWork x) from funext fun x => funext fun m => compare_pos _ _]
    rfl)
  have OKS := Lib.hid (OK.out s (HS.out ▸ LI.out))
  clear hs hb hp hp2 hp3 h0
  have X2 := Lib.hid (BoxMaker.new w2 42 s _ rfl)
  have B3 := Lib.hid (Below.then' B2.out (bel_al1 w2 (.cells #[.int .i64 s.Id, .string s.Name, .int .i64 s.From, .int .i64 s.Until, .int .i64 s.Heir] 42)))
  go_wp2
  refine wp_world (fun W => BoxMaker W w2.heap.size s ∧ Below w.heap.size w W) ⟨X2.out, B3.out⟩ ?_
  rintro W ⟨⟨e0, e1, e2, e3, e4⟩, hbw⟩
  have BW := Lib.hid hbw
  have k0 := cell_regrown e0
  have k1 := cell_regrown e1
  have k2 := cell_regrown e2
  have k3 := cell_regrown e3
  have k4 := cell_regrown e4
  clear hbw e0 e1 e2 e3 e4
  have q1 := below_at (W := W) (fun W' _ => yearsOf_any s W' OKS.out)
  refine wp_region_quiet_below (by kernel_rfl) (by kernel_rfl) ?_
  repeat (first | go_big_quiet_step (with_reducible exact q1 _ _) | quiet_step (with_reducible exact q1 _ _))
  refine wpQuiet_nil ?_
  intro W2 hw2
  have B4 := Lib.hid (Below.then' BW.out (below_of_re hw2))
  clear hw2 q1 k0 k1 k2 k3 k4
  go_wp2
  go_ret3
  exact ⟨by unfold LongestMaker_0 LongestMaker_1 LongestMaker_2; rw [E.out, HS.out]; rfl, B4.out⟩
theorem lineMk_are {xs : List VMaker} {id : Int} {m : VMaker} (hm : m ∈ lineMk xs id) : areMk xs = true := by
  rcases mkSel_ways xs id with ⟨_, h⟩ | ⟨_, _, h⟩ | ⟨i, s, ha, _⟩
  · rw [lineMk_none h] at hm; cases hm
  · rw [lineMk_none h] at hm; cases hm
  · exact ha
theorem line_has (xs : List VMaker) (a b : Int) : ∀ m ∈ lineMk xs a, decide (0 ≤ firstOf (eqvMaker m) (lineMk xs b)) = (lineMk xs b).any fun t => t.Id == m.Id := by
  intro m hm
  rw [firstOf_any]
  exact same_any (lineMk_are hm) (fun t ht => lineMk_in t ht) (lineMk_in m hm) eqvMaker eqvMaker_iff
set_option maxHeartbeats 3200000 in
set_option maxRecDepth 100000 in
theorem implFirstCommon_any (a : Option Addr) (len cap : Nat) (xs : List VMaker) (i j : Int) (w : World) (h : IsMakerS w a len cap xs) (_ : xs.length ≤ 1048576) (hz : ∀ s ∈ xs, s.sized) :
    Calls Try.prog 17 #[.slice a len cap, .int .i64 i, .int .i64 j] w (FirstCommon_Post xs i j w) := by
  have S := Lib.hid h
  have HZ := Lib.hid hz
  have HAS := Lib.hid (line_has xs i j)
  have E0 := Lib.hid (show FirstCommon_0 xs i j = match comm (lineMk xs i) (lineMk xs j) with | some m => m.Id | none => 0 from rfl)
  have E1 := Lib.hid (show FirstCommon_1 xs i j = (comm (lineMk xs i) (lineMk xs j)).isSome from rfl)
  clear h hz
  go_enter Try.func17, Try.ntmps17
  go_wp2_with fail
  refine (lineFrom_any _ _ _ xs j _ S.out).mono ?_
  rintro e w1 ⟨v, rfl, hown, hb⟩
  have B1 := Lib.hid hb
  have S1 := Lib.hid (S.out.below hb)
  obtain ⟨a1, c1, rfl, his, _⟩ := isMakerS_own hown (fun s hs => sized_smallMaker s (HZ.out s (lineMk_in s hs)))
  have T1 := Lib.hid his
  clear hown his hb
  go_wp2_with fail
  refine (lineFrom_any _ _ _ xs i _ S1.out).mono ?_
  rintro e w2 ⟨v, rfl, hown, hb⟩
  have B2 := Lib.hid (Below.then' B1.out hb)
  have T2 := Lib.hid (T1.out.below hb)
  obtain ⟨a2, c2, rfl, his, _⟩ := isMakerS_own hown (fun s hs => sized_smallMaker s (HZ.out s (lineMk_in s hs)))
  have U2 := Lib.hid his
  have LL := lineMk_len xs i
  obtain ⟨L, hL⟩ : ∃ L, lineMk xs i = L := ⟨_, rfl⟩
  obtain ⟨O, hO⟩ : ∃ O, lineMk xs j = O := ⟨_, rfl⟩
  rw [hL, hO] at HAS E0 E1
  rw [hL] at U2 LL ⊢
  rw [hO] at T2 ⊢
  clear hown his hb hL hO
  go_wp2
  go_loopw [18] (fun i wr => ∃ k : Nat, k ≤ L.length ∧ i = .int .i64 k ∧ Below w.heap.size w wr ∧ Below w2.heap.size w2 wr ∧ ∀ (j : Nat) t, j < k → L[j]? = some t → (O.any fun u => u.Id == t.Id) = false) (fun i _ => L.length - (intOf i).toNat)
  case atStart => exact ⟨0, Nat.zero_le _, rfl, B2.out, Below.refl _ _, fun _ _ h => by omega⟩
  case round =>
    obtain ⟨k, hk, rfl, hbel, hbel2, hall⟩ := hrel
    have B := Lib.hid hbel
    have BB := Lib.hid hbel2
    have A := Lib.hid hall
    clear hall
    by_cases hlt : k < L.length
    · obtain ⟨s, hs⟩ : ∃ s, L[k]? = some s := ⟨L[k]'hlt, List.getElem?_eq_getElem _⟩
      obtain ⟨b, o, rfl, hbw, hat⟩ := (U2.out.below hbel2).at (by omega)
      obtain ⟨d0, d1, d2, d3, d4, _⟩ := hat k s hs
      have hi0 : (0 : Int) ≤ (k : Int) := by omega
      have hi1 : (k : Int) < (L.length : Int) := by omega
      have K := Lib.hid hs
      have HA := Lib.hid (HAS.out s (List.mem_of_getElem? hs))
      obtain ⟨r, hr⟩ : ∃ r, (O.any fun u => u.Id == s.Id) = r := ⟨_, rfl⟩
      rw [hr] at HA
      have R := Lib.hid hr
      have X := Lib.hid (BoxMaker.new wr 42 s _ rfl)
      have bx := bel_al1 wr (.cells #[.int .i64 s.Id, .string s.Name, .int .i64 s.From, .int .i64 s.Until, .int .i64 s.Heir] 42)
      have BX := Lib.hid (Below.then' B.out bx)
      have BX2 := Lib.hid (Below.then' BB.out bx)
      clear hbel hbel2 hs hat hr bx
      go_wp2_with fail
      refine (hasMaker_any _ _ _ O s _ (T2.out.below BX2.out)).mono ?_
      rintro e w3 ⟨rfl, hb⟩
      rw [HA.out]
      have B3 := Lib.hid (Below.then' BX.out hb)
      have B4 := Lib.hid (Below.then' BX2.out hb)
      obtain ⟨x0, x1, x2, x3, x4⟩ := X.out.below hb
      clear hb d0 d1 d2 d3 d4
      cases r
      · go_wp2
        go_roundw
        case rel => exact ⟨k + 1, by omega, by go_num, B3.out, B4.out, fun j t hj ht => by
          by_cases e : j = k
          · subst e; rw [K.out] at ht; cases ht; exact R.out
          · exact A.out j t (by omega) ht⟩
        case measure => simp [intOf]; omega
      · have C := Lib.hid (comm_some K.out R.out A.out)
        go_wp2
        go_ret2
        exact ⟨by rw [E0.out, E1.out, C.out]; rfl, B3.out⟩
    · obtain rfl : k = L.length := by omega
      have C := Lib.hid (comm_none A.out)
      clear hbel hbel2
      go_wp2
      go_ret2
      exact ⟨by rw [E0.out, E1.out, C.out]; rfl, B.out⟩
theorem cells_ended {xs : List VMaker} {i : Nat} {s : VMaker} (hs : xs[i]? = some s) (y h : Int) : ((cellsMaker xs).set (i * 5 + 3) (.int .i64 y)).set (i * 5 + 4) (.int .i64 h) = cellsMaker (xs.set i (ended s y h)) := by
  obtain ⟨hi, he⟩ := List.getElem?_eq_some_iff.1 hs
  have h2 : (cellsMaker xs).drop (i * 5) = s.vals ++ (cellsMaker xs).drop (i * 5 + 5) := by
    rw [cellsMaker_drop, List.drop_eq_getElem_cons hi, he]
    rw [show i * 5 + 5 = (i + 1) * 5 from by omega, cellsMaker_drop]
    simp [cellsMaker]
  have hl : (cellsMaker (xs.take i)).length = i * 5 := by rw [cellsMaker_len, List.length_take]; omega
  rw [cellsMaker_set xs i _ hi]
  generalize (cellsMaker xs).drop (i * 5 + 5) = D at h2 ⊢
  rw [cellsMaker_take xs i, h2, List.set_append_right _ _ (by omega), List.set_append_right _ _ (by rw [hl]; omega), hl, show i * 5 + 3 - i * 5 = 3 from by omega, show i * 5 + 4 - i * 5 = 4 from by omega]
  simp [VMaker.vals, ended]
set_option maxHeartbeats 6400000 in
set_option maxRecDepth 100000 in
theorem implEndMaker_any (a : Option Addr) (len cap : Nat) (xs : List VMaker) (id y h' : Int) (w : World) (h : IsMakerS w a len cap xs) (hx : xs.length ≤ 1048576) (hz : ∀ s ∈ xs, s.sized) :
    Calls Try.prog 50 #[.slice a len cap, .int .i64 id, .int .i64 y, .int .i64 h'] w (EndMaker_Post xs id y h' w) := by
  have hm := h.2.2.1
  have hcl := h.2.1
  unfold maxLen at hm
  obtain rfl := h.1
  have S := Lib.hid h
  have HZ := Lib.hid hz
  clear h hz
  have F := Lib.hid (findByMaker_any 36 65 (areMk xs) VMaker.Id _ _ _ xs id _ S.out (enters_fn Try.func36 (by kernel_rfl) (by kernel_rfl)) (enters_fn Try.func65 (by kernel_rfl) (by kernel_rfl)) (fun W hW => areMk_any _ _ _ xs W hW) (fun W s => makerId_any s W))
  rcases (show (endMk xs id y h' = ([], false) ∧ (areMk xs = false ∨ mkIdx xs id = -1)) ∨ ∃ (i : Nat) (s : VMaker), areMk xs = true ∧ mkIdx xs id = (i : Int) ∧ xs[i]? = some s ∧ endMk xs id y h' = if y ≤ s.Until ∧ areMk (xs.set i (ended s y h')) = true then (xs.set i (ended s y h'), true) else ([], false) from by
    rcases mkSel_ways xs id with ⟨h1, h2⟩ | ⟨h1, h2, h3⟩ | ⟨i, s, h1, h2, h3, h4, _⟩
    · exact .inl ⟨endMk_no h2, .inl h1⟩
    · exact .inl ⟨endMk_no h3, .inr h2⟩
    · exact .inr ⟨i, s, h1, h2, h4, endMk_at h3 h4⟩) with ⟨h1, h2⟩ | ⟨i, s, h1, h2, hs, h3⟩
  · have E0 := Lib.hid (show EndMaker_0 xs id y h' = [] from by unfold EndMaker_0; rw [h1])
    have E1 := Lib.hid (show EndMaker_1 xs id y h' = false from by unfold EndMaker_1; rw [h1])
    have H2 := Lib.hid h2
    clear h1 h2
    go_enter Try.func50, Try.ntmps50
    go_wp2_with fail
    refine F.out.mono ?_
    intro e w1 hf
    obtain ⟨z, rfl, hb⟩ : ∃ z : Int, e = .returned (.tuple #[.int .i64 z, .bool false]) ∧ Below w.heap.size w w1 := by
      rcases H2.out with h | h
      · exact hf.bad h
      · exact hf.none h
    have B1 := Lib.hid hb
    clear hf hb
    go_wp2
    go_ret2
    exact ⟨_, by rw [E1.out]; rfl, by rw [E0.out]; exact nil_ownMaker _ _, B1.out⟩
  have HE := Lib.hid h3
  have H1 := Lib.hid h1
  have H2 := Lib.hid h2
  have HS := Lib.hid hs
  have hil : i < xs.length := (List.getElem?_eq_some_iff.1 hs).1
  have hi0 : (0 : Int) ≤ (i : Int) := by omega
  have hi1 : (i : Int) < (xs.length : Int) := by omega
  clear h1 h2 h3 hs
  go_enter Try.func50, Try.ntmps50
  go_wp2_with fail
  refine F.out.mono ?_
  intro e w1 hf
  obtain ⟨rfl, hb⟩ := hf.some H1.out H2.out
  have B1 := Lib.hid hb
  have S1 := Lib.hid (S.out.below hb)
  clear hf hb F
  obtain ⟨b, o, rfl, _, hat⟩ := S1.out.at (by omega)
  obtain ⟨c0, c1, c2, c3, c4, _⟩ := hat i s HS.out
  clear hat
  by_cases hy : y ≤ s.Until
  · go_wp2_with fail
    refine (copyMakers_any _ _ _ xs _ S1.out hx HZ.out).mono ?_
    rintro e w2 ⟨v, rfl, hown, hb⟩
    have B2 := Lib.hid (Below.then' B1.out hb)
    have O2 := Lib.hid (ownsRow_base hown B1.out.size)
    obtain ⟨g, cp, rfl, hg, hn, hc⟩ := own_some O2.out (by omega)
    clear hown hb c0 c1 c2 c3 c4
    have f3 := O2.out.frozenAt (i * 5 + 3)
    have f4 := O2.out.frozenAt (i * 5 + 4)
    obtain ⟨u3, d3⟩ := own_cell O2.out (i * 5 + 3) (by rw [cellsMaker_len]; omega)
    obtain ⟨u4, d4⟩ := own_cell O2.out (i * 5 + 4) (by rw [cellsMaker_len]; omega)
    have T1 := O2.out.stored (i * 5 + 3) (.int .i64 y)
    have T2 := T1.1.stored (i * 5 + 4) (.int .i64 h')
    have hown3 := T2.1
    rw [cells_ended HS.out, show xs.length = (xs.set i (ended s y h')).length from List.length_set.symm] at hown3
    have hsz := B2.out.size
    have B3 := Lib.hid ((B2.out.grown T1.2 hsz (fun j e => (O2.out.lt j e).1)).grown T2.2 (by simpa using hsz) (fun j e => (T1.1.lt j e).1))
    have SMR := Lib.hid (show ∀ t ∈ xs.set i (ended s y h'), t.sized from fun t ht => (List.mem_or_eq_of_mem_set ht).elim (HZ.out t) (fun e => by
      subst e
      have := HZ.out s (List.mem_of_getElem? HS.out)
      unfold VMaker.sized at this ⊢
      exact this))
    obtain ⟨a5, c5, e5, his, _⟩ := isMakerS_own hown3 (mk_sized_small SMR.out)
    cases e5
    rw [List.length_set] at his
    have S3 := Lib.hid his
    have O3 := Lib.hid hown3
    clear hown3 his T1 T2
    obtain ⟨R, hR⟩ : ∃ R, xs.set i (ended s y h') = R := ⟨_, rfl⟩
    rw [hR] at S3 O3 HE SMR
    have RL := Lib.hid (show R.length = xs.length from by rw [← hR, List.length_set])
    clear hR
    obtain ⟨q, hq⟩ : ∃ q, areMk R = q := ⟨_, rfl⟩
    have Q := Lib.hid hq
    clear hq
    go_wp2_with fail
    refine (areMk_any _ _ _ R _ S3.out).mono ?_
    rintro e w4 ⟨rfl, hb⟩
    rw [Q.out]
    have B4 := Lib.hid (Below.then' B3.out hb)
    have O4 := Lib.hid (ownsRow_below O3.out hb)
    clear hb f3 f4 d3 d4
    cases q
    · have E0 := Lib.hid (show EndMaker_0 xs id y h' = [] from by unfold EndMaker_0; rw [HE.out, Q.out]; simp)
      have E1 := Lib.hid (show EndMaker_1 xs id y h' = false from by unfold EndMaker_1; rw [HE.out, Q.out]; simp)
      go_wp2
      go_ret2
      exact ⟨_, by rw [E1.out]; rfl, by rw [E0.out]; exact nil_ownMaker _ _, B4.out⟩
    · have E0 := Lib.hid (show EndMaker_0 xs id y h' = R from by unfold EndMaker_0; rw [HE.out, Q.out, if_pos ⟨hy, rfl⟩])
      have E1 := Lib.hid (show EndMaker_1 xs id y h' = true from by unfold EndMaker_1; rw [HE.out, Q.out, if_pos ⟨hy, rfl⟩])
      go_wp2
      go_ret2
      refine ⟨_, by rw [E1.out]; rfl, ?_, B4.out⟩
      rw [E0.out, RL.out]
      have := O4.out
      rw [RL.out] at this
      exact this
  · have hy2 : s.Until < y := by omega
    have E0 := Lib.hid (show EndMaker_0 xs id y h' = [] from by unfold EndMaker_0; rw [HE.out, if_neg (fun h => hy h.1)])
    have E1 := Lib.hid (show EndMaker_1 xs id y h' = false from by unfold EndMaker_1; rw [HE.out, if_neg (fun h => hy h.1)])
    go_wp2
    go_ret2
    exact ⟨_, by rw [E1.out]; rfl, by rw [E0.out]; exact nil_ownMaker _ _, B1.out⟩
end Go.Proofs.Ytpcibejmahhjiaa
namespace Go.Proofs.Ytpcibejmahhjiaa
open Go.RowKit

theorem l7Year_any (d : Int) (w : World) :
    Calls Try.prog 69 #[.int .i64 d] w fun e w' => e = .returned (.bool (yearB d)) ∧ w = w' := by
  go_enter Try.func69, Try.ntmps69
  go_wp2_with fail
  refine (l1In_any _ _ _ _).mono ?_
  rintro e w' ⟨rfl, rfl⟩
  go_wp2
  go_ret
  exact ⟨rfl, rfl⟩
theorem mkOk_spec (m : VMaker) : m.ok = (inB m.Id 1 99 && (wordB m.Name && (yearB m.Until && (inB m.From 1500 m.Until && (inB m.Heir 0 99 && !(m.Heir == m.Id)))))) := by
  rw [Bool.eq_iff_iff, mkOk_iff]
  simp only [Bool.and_eq_true, inB_iff, yearB, Bool.not_eq_true', beq_eq_false_iff_ne, ne_eq]
  constructor
  · rintro ⟨h1, h2, h3, h4, h5, h6, h7⟩; exact ⟨h1, h2, h4, ⟨h3.1, h5⟩, h6, h7⟩
  · rintro ⟨h1, h2, h4, ⟨h3, h5⟩, h6, h7⟩; exact ⟨h1, h2, ⟨h3, by omega⟩, h4, h5, h6, h7⟩
set_option maxHeartbeats 3200000 in
theorem l7One_any (s : VMaker) (w : World) (hs : s.small) :
    Calls Try.prog 70 #[.agg #[.int .i64 s.Id, .string s.Name, .int .i64 s.From, .int .i64 s.Until, .int .i64 s.Heir]] w fun e w' => e = .returned (.bool s.ok) ∧ Below w.heap.size w w' := by
  obtain ⟨q1, h1⟩ : ∃ q, wordB s.Name = q := ⟨_, rfl⟩
  obtain ⟨q2, h2⟩ : ∃ q, yearB s.Until = q := ⟨_, rfl⟩
  have H1 := Lib.hid h1
  have H2 := Lib.hid h2
  have SM := Lib.hid hs
  have OK := Lib.hid (mkOk_spec s)
  clear h1 h2 hs
  go_enter Try.func70, Try.ntmps70
  go_wp2_with (first | (go_at_call 77; refine (l1In_any _ _ _ _).mono ?_; rintro e w' ⟨rfl, rfl⟩) | (go_at_call 96; refine (l2Word_any _ _ SM.out).mono ?_; rintro e w' ⟨rfl, rfl⟩; rw [H1.out]) | (go_at_call 69; refine (l7Year_any _ _).mono ?_; rintro e w' ⟨rfl, rfl⟩; rw [H2.out]))
  all_goals go_ret
  all_goals exact ⟨ret_bool (by rw [OK.out, H1.out, H2.out]; first | (simp [*]; done) | (simp [*]; rfl)), bel_al1 _ _⟩
set_option maxHeartbeats 1600000 in
theorem l7Find_any (a : Option Addr) (len cap : Nat) (xs : List VMaker) (id : Int) (w : World) (h : IsMakerS w a len cap xs) :
    Calls Try.prog 60 #[.slice a len cap, .int .i64 id] w fun e w' => e = .returned (.int .i64 (mkIdx xs id)) ∧ w = w' := by
  have hm := h.2.2.1
  have hcl := h.2.1
  unfold maxLen at hm
  obtain rfl := h.1
  have S := Lib.hid h
  clear h
  go_enter Try.func60, Try.ntmps60
  go_wp2
  go_loop [5] (fun i => ∃ k : Nat, k ≤ xs.length ∧ i = .int .i64 k ∧ ∀ j t, j < k → xs[j]? = some t → (t.Id == id) = false) (fun i => xs.length - (intOf i).toNat)
  case atStart => exact ⟨0, Nat.zero_le _, rfl, fun _ _ h => by omega⟩
  case round =>
    obtain ⟨k, hk, rfl, hall⟩ := hrel
    have A := Lib.hid hall
    clear hall
    by_cases hlt : k < xs.length
    · obtain ⟨s, hs⟩ : ∃ s, xs[k]? = some s := ⟨xs[k]'hlt, List.getElem?_eq_getElem _⟩
      obtain ⟨b, o, rfl, hb, hat⟩ := S.out.at (by omega)
      obtain ⟨c0, _⟩ := hat k s hs
      have HS := Lib.hid hs
      have hi0 : (0 : Int) ≤ (k : Int) := by omega
      have hi1 : (k : Int) < (xs.length : Int) := by omega
      clear hs hat
      obtain ⟨r, hr⟩ : ∃ r, (s.Id == id) = r := ⟨_, rfl⟩
      have R := Lib.hid hr
      cases r
      · go_wp2
        go_round
        case rel => exact ⟨k + 1, by omega, by go_num, fun j t hj ht => by
          by_cases e : j = k
          · subst e; rw [HS.out] at ht; cases ht; exact R.out
          · exact A.out j t (by omega) ht⟩
        case measure => simp [intOf]; omega
      · have E := Lib.hid (show mkIdx xs id = (k : Int) from firstOf_at HS.out R.out A.out)
        go_wp2
        go_ret
        exact ⟨ret_int E.out.symm, rfl⟩
    · obtain rfl : k = xs.length := by omega
      have E := Lib.hid (show mkIdx xs id = -1 from firstOf_no A.out)
      go_wp2
      go_ret
      exact ⟨ret_int E.out.symm, rfl⟩
theorem areMk_bad {xs : List VMaker} {k : Nat} (h : upStep VMaker.ok VMaker.Id xs k = false) (hk : k < xs.length) : areMk xs = false := by
  unfold areMk mkUp; rw [upB_bad h hk]; rfl
theorem areMk_heirless {xs : List VMaker} {m : VMaker} (hm : m ∈ xs) (h : heirB xs m = false) : areMk xs = false := by
  have h : xs.all (heirB xs) = false := by rw [List.all_eq_false]; exact ⟨m, hm, by rw [h]; simp⟩
  unfold areMk; rw [h]; simp
theorem heirB_zero {xs : List VMaker} {m : VMaker} (h : m.Heir = 0) : heirB xs m = true := by unfold heirB; rw [h]; rfl
theorem heirB_none {xs : List VMaker} {m : VMaker} (h : ¬ m.Heir = 0) (hi : mkIdx xs m.Heir = -1) : heirB xs m = false := by
  unfold heirB aftB; rw [hi]; cases xs[(-1 : Int).toNat]? <;> simp [h]
theorem heirB_at {xs : List VMaker} {m t : VMaker} {i : Nat} (h : ¬ m.Heir = 0) (hi : mkIdx xs m.Heir = (i : Int)) (ht : xs[i]? = some t) : heirB xs m = decide (m.Until < t.From) := by
  unfold heirB aftB; rw [hi]; simp [ht, h]
theorem take_alls' {α : Type} {P : α → Prop} {xs : List α} {k : Nat} {s : α} (h : ∀ m ∈ xs.take k, P m) (hs : xs[k]? = some s) (hp : P s) : ∀ m ∈ xs.take (k + 1), P m := by
  intro m hm
  rw [List.take_add_one, hs, List.mem_append] at hm
  rcases hm with hm | hm
  · exact h m hm
  · simp at hm; subst hm; exact hp
set_option maxHeartbeats 12800000 in
set_option maxRecDepth 100000 in
theorem l7Good_any (a : Option Addr) (len cap : Nat) (xs : List VMaker) (w : World) (h : IsMakerS w a len cap xs) :
    Calls Try.prog 61 #[.slice a len cap] w fun e w' => e = .returned (.bool (areMk xs)) ∧ Below w.heap.size w w' := by
  have hm := h.2.2.1
  have hcl := h.2.1
  unfold maxLen at hm
  obtain rfl := h.1
  have S := Lib.hid h
  clear h
  go_enter Try.func61, Try.ntmps61
  go_wp2
  go_loopw [3] (fun i wr => ∃ k : Nat, k ≤ xs.length ∧ i = .int .i64 k ∧ Below w.heap.size w wr ∧ (∀ j, j < k → upStep VMaker.ok VMaker.Id xs j = true) ∧ ∀ m ∈ xs.take k, heirB xs m = true) (fun i _ => xs.length - (intOf i).toNat)
  case atStart => exact ⟨0, Nat.zero_le _, rfl, Below.refl _ _, by omega, by simp⟩
  case round =>
    obtain ⟨k, hk, rfl, hbel, hall, hher⟩ := hrel
    have A := Lib.hid hall
    have HH := Lib.hid hher
    have B := Lib.hid hbel
    clear hall hher
    by_cases hlt : k < xs.length
    · obtain ⟨s, hs⟩ : ∃ s, xs[k]? = some s := ⟨xs[k]'hlt, List.getElem?_eq_getElem _⟩
      obtain ⟨b, o, rfl, hb, hat⟩ := (S.out.below hbel).at (by omega)
      obtain ⟨c0, c1, c2, c3, c4, hsm⟩ := hat k s hs
      have K := Lib.hid hs
      have SM := Lib.hid hsm
      have X := Lib.hid (BoxMaker.new wr 42 s _ rfl)
      have BX := Lib.hid (Below.then' B.out (bel_al1 wr (.cells #[.int .i64 s.Id, .string s.Name, .int .i64 s.From, .int .i64 s.Until, .int .i64 s.Heir] 42)))
      clear hsm hbel hat
      have hi0 : (0 : Int) ≤ (k : Int) := by omega
      have hi1 : (k : Int) < (xs.length : Int) := by omega
      rcases step_ways (ok := VMaker.ok) (id := VMaker.Id) hs with ⟨h1, h2⟩ | ⟨h1, rfl, h2⟩ | ⟨h1, j, p, rfl, hp, h2⟩
      · have OK := Lib.hid h1
        have Z := Lib.hid h2
        clear h1 h2 hs
        go_wp2
        refine wp_world (fun W => BoxMaker W wr.heap.size s ∧ Below w.heap.size w W) ⟨X.out, BX.out⟩ ?_
        clear c0 c1 c2 c3 c4
        rintro W ⟨hbx, hbw⟩
        have XW := Lib.hid hbx
        have BW := Lib.hid hbw
        obtain ⟨e0, e1, e2, e3, e4⟩ := hbx
        obtain ⟨_, _, eq, _, hat⟩ := (S.out.below hbw).at (by omega)
        cases eq
        have k0 := cell_regrown e0
        have k1 := cell_regrown e1
        have k2 := cell_regrown e2
        have k3 := cell_regrown e3
        have k4 := cell_regrown e4
        clear hat hbw e0 e1 e2 e3 e4
        have cQ := below_at (W := W) (fun W' _ => OK.out ▸ l7One_any s W' SM.out)
        refine wp_region_quiet_below (by kernel_rfl) (by kernel_rfl) ?_
        repeat (first | go_big_quiet_step (exact cQ _ _) | quiet_step (exact cQ _ _))
        refine wpQuiet_nil ?_
        intro W2 hw2
        have B2 := Lib.hid (Below.then' BW.out (below_of_re hw2))
        have X2 := Lib.hid (XW.out.below (below_of_re hw2))
        clear hw2 cQ k0 k1 k2 k3 k4
        go_wp2
        go_ret
        exact ⟨ret_bool (areMk_bad Z.out hlt).symm, B2.out⟩
      · have OK := Lib.hid h1
        have Z := Lib.hid h2
        clear h1 h2 hs
        simp only [Nat.zero_mul, Nat.add_zero] at c0 c1 c2 c3 c4
        go_wp2
        refine wp_world (fun W => BoxMaker W wr.heap.size s ∧ Below w.heap.size w W) ⟨X.out, BX.out⟩ ?_
        clear c0 c1 c2 c3 c4
        rintro W ⟨hbx, hbw⟩
        have XW := Lib.hid hbx
        have BW := Lib.hid hbw
        obtain ⟨e0, e1, e2, e3, e4⟩ := hbx
        obtain ⟨_, _, eq, _, hat⟩ := (S.out.below hbw).at (by omega)
        cases eq
        have k0 := cell_regrown e0
        have k1 := cell_regrown e1
        have k2 := cell_regrown e2
        have k3 := cell_regrown e3
        have k4 := cell_regrown e4
        clear hat hbw e0 e1 e2 e3 e4
        have cQ := below_at (W := W) (fun W' _ => OK.out ▸ l7One_any s W' SM.out)
        refine wp_region_quiet_below (by kernel_rfl) (by kernel_rfl) ?_
        repeat (first | go_big_quiet_step (exact cQ _ _) | quiet_step (exact cQ _ _))
        refine wpQuiet_nil ?_
        intro W2 hw2
        have B2 := Lib.hid (Below.then' BW.out (below_of_re hw2))
        have X2 := Lib.hid (XW.out.below (below_of_re hw2))
        clear hw2 cQ k0 k1 k2 k3 k4
        obtain ⟨x0, x1, x2, x3, x4⟩ := X2.out
        have okp := mkOk_iff.1 OK.out
        by_cases h0 : s.Heir = 0
        · have HZ := Lib.hid (heirB_zero (xs := xs) h0)
          have h00 : ¬ (0 : Int) < s.Heir := by omega
          clear okp h0
          go_wp2
          go_roundw
          case rel => exact ⟨0 + 1, by omega, by go_num, B2.out, all_succ' A.out Z.out, take_alls' HH.out K.out HZ.out⟩
          case measure => simp [intOf]; omega
        · have h00 : (0 : Int) < s.Heir := by omega
          have HN := Lib.hid h0
          clear okp h0
          go_wp2_with fail
          refine (l7Find_any _ _ _ xs s.Heir _ (S.out.below B2.out)).mono ?_
          rintro e w' ⟨rfl, rfl⟩
          rcases mkIdx_cases xs s.Heir with ⟨g1, _⟩ | ⟨i, t, g1, ht, _⟩
          · have HZ := Lib.hid (areMk_heirless (List.mem_of_getElem? K.out) (heirB_none HN.out g1))
            rw [g1]
            clear g1
            go_wp2
            go_quiet (fail)
            have B3 := Lib.hid (Below.then' B2.out (bel_drawn W2 nq))
            go_wp2
            go_ret
            exact ⟨ret_bool HZ.out.symm, B3.out⟩
          · have hil := (List.getElem?_eq_some_iff.1 ht).1
            have HZ := Lib.hid (heirB_at HN.out g1 ht)
            rw [g1]
            obtain ⟨_, _, eq, _, hat⟩ := (S.out.below B2.out).at (by omega)
            cases eq
            obtain ⟨y0, y1, y2, y3, y4, _⟩ := hat i t ht
            have hj0 : (0 : Int) ≤ (i : Int) := by omega
            have hj1 : (i : Int) < (xs.length : Int) := by omega
            clear g1 ht hat
            by_cases hle : t.From ≤ s.Until
            · have HY := Lib.hid (areMk_heirless (List.mem_of_getElem? K.out) (HZ.out.trans (decide_eq_false (by omega))))
              go_wp2
              go_quiet (fail)
              have B3 := Lib.hid (Below.then' B2.out (bel_drawn W2 nq))
              go_wp2
              go_ret
              exact ⟨ret_bool HY.out.symm, B3.out⟩
            · have hle2 : s.Until < t.From := by omega
              have HY := Lib.hid (HZ.out.trans (decide_eq_true hle2))
              go_wp2
              go_quiet (fail)
              have B3 := Lib.hid (Below.then' B2.out (bel_drawn W2 nq))
              go_wp2
              go_roundw
              case rel => exact ⟨0 + 1, by omega, by go_num, B3.out, all_succ' A.out Z.out, take_alls' HH.out K.out HY.out⟩
              case measure => simp [intOf]; omega
      · have OK := Lib.hid h1
        have P := Lib.hid hp
        have hp0 : (0 : Int) ≤ (j : Int) := by omega
        have hp1 : (j : Int) < (xs.length : Int) := by omega
        clear h1 hs hp
        rcases h2 with ⟨h2, h3⟩ | ⟨h2, h3⟩
        · have Z := Lib.hid h3
          clear h3
          go_wp2
          refine wp_world (fun W => BoxMaker W wr.heap.size s ∧ Below w.heap.size w W) ⟨X.out, BX.out⟩ ?_
          clear c0 c1 c2 c3 c4
          rintro W ⟨hbx, hbw⟩
          have XW := Lib.hid hbx
          have BW := Lib.hid hbw
          obtain ⟨e0, e1, e2, e3, e4⟩ := hbx
          obtain ⟨_, _, eq, _, hat⟩ := (S.out.below hbw).at (by omega)
          cases eq
          have k0 := cell_regrown e0
          have k1 := cell_regrown e1
          have k2 := cell_regrown e2
          have k3 := cell_regrown e3
          have k4 := cell_regrown e4
          obtain ⟨p0, _⟩ := hat j p P.out
          have q0 := cell_regrown p0
          clear p0
          clear hat hbw e0 e1 e2 e3 e4
          have cQ := below_at (W := W) (fun W' _ => OK.out ▸ l7One_any s W' SM.out)
          refine wp_region_quiet_below (by kernel_rfl) (by kernel_rfl) ?_
          repeat (first | go_big_quiet_step (exact cQ _ _) | quiet_step (exact cQ _ _))
          refine wpQuiet_nil ?_
          intro W2 hw2
          have B2 := Lib.hid (Below.then' BW.out (below_of_re hw2))
          have X2 := Lib.hid (XW.out.below (below_of_re hw2))
          clear hw2 cQ k0 k1 k2 k3 k4 q0
          obtain ⟨x0, x1, x2, x3, x4⟩ := X2.out
          have okp := mkOk_iff.1 OK.out
          by_cases h0 : s.Heir = 0
          · have HZ := Lib.hid (heirB_zero (xs := xs) h0)
            have h00 : ¬ (0 : Int) < s.Heir := by omega
            clear okp h0
            go_wp2
            go_roundw
            case rel => exact ⟨j + 1 + 1, by omega, by go_num, B2.out, all_succ' A.out Z.out, take_alls' HH.out K.out HZ.out⟩
            case measure => simp [intOf]; omega
          · have h00 : (0 : Int) < s.Heir := by omega
            have HN := Lib.hid h0
            clear okp h0
            go_wp2_with fail
            refine (l7Find_any _ _ _ xs s.Heir _ (S.out.below B2.out)).mono ?_
            rintro e w' ⟨rfl, rfl⟩
            rcases mkIdx_cases xs s.Heir with ⟨g1, _⟩ | ⟨i, t, g1, ht, _⟩
            · have HZ := Lib.hid (areMk_heirless (List.mem_of_getElem? K.out) (heirB_none HN.out g1))
              rw [g1]
              clear g1
              go_wp2
              go_quiet (fail)
              have B3 := Lib.hid (Below.then' B2.out (bel_drawn W2 nq))
              go_wp2
              go_ret
              exact ⟨ret_bool HZ.out.symm, B3.out⟩
            · have hil := (List.getElem?_eq_some_iff.1 ht).1
              have HZ := Lib.hid (heirB_at HN.out g1 ht)
              rw [g1]
              obtain ⟨_, _, eq, _, hat⟩ := (S.out.below B2.out).at (by omega)
              cases eq
              obtain ⟨y0, y1, y2, y3, y4, _⟩ := hat i t ht
              have hj0 : (0 : Int) ≤ (i : Int) := by omega
              have hj1 : (i : Int) < (xs.length : Int) := by omega
              clear g1 ht hat
              by_cases hle : t.From ≤ s.Until
              · have HY := Lib.hid (areMk_heirless (List.mem_of_getElem? K.out) (HZ.out.trans (decide_eq_false (by omega))))
                go_wp2
                go_quiet (fail)
                have B3 := Lib.hid (Below.then' B2.out (bel_drawn W2 nq))
                go_wp2
                go_ret
                exact ⟨ret_bool HY.out.symm, B3.out⟩
              · have hle2 : s.Until < t.From := by omega
                have HY := Lib.hid (HZ.out.trans (decide_eq_true hle2))
                go_wp2
                go_quiet (fail)
                have B3 := Lib.hid (Below.then' B2.out (bel_drawn W2 nq))
                go_wp2
                go_roundw
                case rel => exact ⟨j + 1 + 1, by omega, by go_num, B3.out, all_succ' A.out Z.out, take_alls' HH.out K.out HY.out⟩
                case measure => simp [intOf]; omega
        · have Z := Lib.hid h3
          clear h3
          go_wp2
          refine wp_world (fun W => BoxMaker W wr.heap.size s ∧ Below w.heap.size w W) ⟨X.out, BX.out⟩ ?_
          clear c0 c1 c2 c3 c4
          rintro W ⟨hbx, hbw⟩
          have XW := Lib.hid hbx
          have BW := Lib.hid hbw
          obtain ⟨e0, e1, e2, e3, e4⟩ := hbx
          obtain ⟨_, _, eq, _, hat⟩ := (S.out.below hbw).at (by omega)
          cases eq
          have k0 := cell_regrown e0
          have k1 := cell_regrown e1
          have k2 := cell_regrown e2
          have k3 := cell_regrown e3
          have k4 := cell_regrown e4
          obtain ⟨p0, _⟩ := hat j p P.out
          have q0 := cell_regrown p0
          clear p0
          clear hat hbw e0 e1 e2 e3 e4
          have cQ := below_at (W := W) (fun W' _ => OK.out ▸ l7One_any s W' SM.out)
          refine wp_region_quiet_below (by kernel_rfl) (by kernel_rfl) ?_
          repeat (first | go_big_quiet_step (exact cQ _ _) | quiet_step (exact cQ _ _))
          refine wpQuiet_nil ?_
          intro W2 hw2
          have B2 := Lib.hid (Below.then' BW.out (below_of_re hw2))
          have X2 := Lib.hid (XW.out.below (below_of_re hw2))
          clear hw2 cQ k0 k1 k2 k3 k4 q0
          go_wp2
          go_ret
          exact ⟨ret_bool (areMk_bad Z.out hlt).symm, B2.out⟩
    · obtain rfl : k = xs.length := by omega
      have U := Lib.hid (show areMk xs = decide (xs.length ≤ 10) from by
        have hh := HH.out
        rw [List.take_of_length_le (Nat.le_refl _)] at hh
        unfold areMk mkUp
        rw [upB_iff.2 (fun i hi => A.out i hi), List.all_eq_true.2 hh]; simp)
      clear hbel
      go_wp2
      go_ret
      exact ⟨ret_bool (by rw [U.out]; simp; omega), B.out⟩
end Go.Proofs.Ytpcibejmahhjiaa
namespace Go.Proofs.Ytpcibejmahhjiaa
open Go.RowKit

/-- Places as numbers. -/
def asInts (l : List Nat) : List Int := l.map fun k : Nat => (k : Int)
theorem asInts_snoc (l : List Nat) (k : Nat) : asInts (l ++ [k]) = asInts l ++ [(k : Int)] := by simp [asInts]
theorem asInts_len (l : List Nat) : (asInts l).length = l.length := by simp [asInts]
theorem asInts_at {l : List Nat} {k j : Nat} (h : l[k]? = some j) : (asInts l)[k]? = some (j : Int) := by simp [asInts, h]
set_option maxHeartbeats 6400000 in
set_option maxRecDepth 100000 in
theorem l7Line_any (a : Option Addr) (len cap : Nat) (xs : List VMaker) (i : Nat) (w : World) (h : IsMakerS w a len cap xs) (ha : areMk xs = true) (hi' : i < xs.length) :
    Calls Try.prog 62 #[.slice a len cap, .int .i64 (i : Int)] w (IdsOwn (asInts (lineI xs i)) w) := by
  have hm := h.2.2.1
  have hcl := h.2.1
  unfold maxLen at hm
  obtain rfl := h.1
  obtain ⟨i0, hi, hz0, hz1, hz2⟩ := info_parts infoInt
  have S := Lib.hid h
  have Q := Lib.hid ha
  have O0 := Lib.hid (made_ids w)
  have LN := Lib.hid (show lineI xs i = [] ++ lineZ xs (i : Int) from by rw [lineZ_nat]; rfl)
  clear h ha
  go_enter Try.func62, Try.ntmps62
  go_wp2
  go_loopw [6, 5] (fun i' o wr => ∃ (k : Int) (G : List Nat), -1 ≤ k ∧ k < (xs.length : Int) ∧ i' = .int .i64 k ∧ lineI xs i = G ++ lineZ xs k ∧ wr.ownsRow w.heap.size 3 1 o G.length (intCells (asInts G)) ∧ Below w.heap.size w wr) (fun i _ _ => lineLeft xs (intOf i))
  case atStart => exact ⟨(i : Int), [], by omega, by omega, rfl, LN.out, O0.out, wh_al1 _ _⟩
  case round =>
    obtain ⟨k, G, hk0, hk1, rfl, hl, hown, hbel⟩ := hrel
    have B := Lib.hid hbel
    have HL := Lib.hid hl
    have O := Lib.hid hown
    by_cases hlt : k < 0
    · have E := Lib.hid (show lineI xs i = G from by rw [hl]; unfold lineZ; rw [if_pos hlt]; simp)
      clear hbel hl hown
      go_wp2
      go_ret
      exact ⟨_, rfl, by rw [E.out, asInts_len]; exact O.out, B.out⟩
    · obtain ⟨j, rfl⟩ : ∃ j : Nat, k = (j : Int) := ⟨k.toNat, by omega⟩
      have hj : j < xs.length := by omega
      obtain ⟨s, hs⟩ : ∃ s, xs[j]? = some s := ⟨xs[j]'hj, List.getElem?_eq_getElem _⟩
      obtain ⟨b, o, rfl, _, _⟩ := (S.out.below hbel).at (by omega)
      have hj0 : (0 : Int) ≤ (j : Int) := by omega
      have K := Lib.hid hs
      have HN := Lib.hid (mkNext_some hs)
      have NB := mkNext_bd xs j
      have LL := Lib.hid (lineLeft_next Q.out hj)
      have ST := Lib.hid (show lineI xs i = (G ++ [j]) ++ lineZ xs (mkNext xs j) from by
        rw [hl, lineZ_step Q.out hj]; simp)
      have HT := Lib.hid (heir_there Q.out hs)
      have hgl : G.length ≤ 601 := by have := lineI_len xs i; rw [hl, List.length_append] at this; omega
      obtain ⟨n, hn⟩ : ∃ n, mkNext xs j = n := ⟨_, rfl⟩
      rw [hn] at HN ST LL NB HT
      have hown3 := hown.alloc (.cells #[.int .i64 (j : Int)] 3)
      have hsz := B.out.size
      clear hbel hl hs hown hn
      by_cases h0 : s.Heir = 0
      · have E := Lib.hid (show lineI xs i = G ++ [j] from by
          rw [ST.out]; unfold lineZ; rw [if_pos (HT.out.2 h0)]; simp)
        have h0' : (s.Heir == 0) = true := by simp [h0]
        clear h0
        go_wp2_with (at_builtin; refine wpList_append_own _ rfl _ _ 29 rfl w.heap.size 3 i0 (.int .i64 0) 1 8 Try.underlying29 hi hz0 hz1 hz2 rfl (by decide) _ _ _ rfl hown3 ⟨wr.heap.size, 0, none⟩ 1 1 [.int .i64 (j : Int)] rfl rfl (cell_one _ _ _) (fun x hx => by simp at hx; subst hx; rfl) (by unfold maxLen; omega) (by omega) (by simp; omega) ?_; intro v' w4 hown' hgrow4 hnil4; have B4 := Lib.hid ((Below.then' B.out (wh_al1 _ _)).grown hgrow4 (by simp; omega) (fun j e => (hown3.lt j e).1)); have O4 := Lib.hid hown'; clear hgrow4 hown'; obtain ⟨_, _, eb, _, hat⟩ := (S.out.below B4.out).at (by omega); cases eb; obtain ⟨c0, c1, c2, c3, c4, _⟩ := hat j s K.out; clear hat)
        go_ret
        exact ⟨_, rfl, by rw [E.out, asInts_snoc, intCells_snoc, List.length_append, asInts_len]; exact O4.out, B4.out⟩
      · have h0' : (s.Heir == 0) = false := by simp [h0]
        clear h0
        go_wp2_with (at_builtin; refine wpList_append_own _ rfl _ _ 29 rfl w.heap.size 3 i0 (.int .i64 0) 1 8 Try.underlying29 hi hz0 hz1 hz2 rfl (by decide) _ _ _ rfl hown3 ⟨wr.heap.size, 0, none⟩ 1 1 [.int .i64 (j : Int)] rfl rfl (cell_one _ _ _) (fun x hx => by simp at hx; subst hx; rfl) (by unfold maxLen; omega) (by omega) (by simp; omega) ?_; intro v' w4 hown' hgrow4 hnil4; have B4 := Lib.hid ((Below.then' B.out (wh_al1 _ _)).grown hgrow4 (by simp; omega) (fun j e => (hown3.lt j e).1)); have O4 := Lib.hid hown'; clear hgrow4 hown'; obtain ⟨_, _, eb, _, hat⟩ := (S.out.below B4.out).at (by omega); cases eb; obtain ⟨c0, c1, c2, c3, c4, _⟩ := hat j s K.out; clear hat)
        refine (l7Find_any _ _ _ xs s.Heir _ (S.out.below B4.out)).mono ?_
        rintro e w' ⟨rfl, rfl⟩
        rw [← HN.out]
        clear c0 c1 c2 c3 c4
        go_wp2
        go_roundw
        case rel => exact ⟨n, G ++ [j], NB.1, NB.2, rfl, ST.out, by rw [asInts_snoc, intCells_snoc, List.length_append]; exact O4.out, B4.out⟩
        case measure => simp only [intOf]; exact LL.out
theorem specIsMaker_any (s : VMaker) (w : World) (hz : s.sized) :
    Calls Try.prog 30 #[.agg #[.int .i64 s.Id, .string s.Name, .int .i64 s.From, .int .i64 s.Until, .int .i64 s.Heir]] w (IsMaker_Post s w) := by
  go_enter Try.func30, Try.ntmps30
  go_wp2_with fail
  refine (l7One_any s _ (sized_smallMaker s hz)).mono ?_
  rintro e w1 ⟨rfl, hb⟩
  have B := Lib.hid (Below.then' (bel_al1 _ _) hb)
  clear hb
  go_wp2
  go_ret
  exact ⟨rfl, B.out⟩
theorem specAreMakers_any (a : Option Addr) (len cap : Nat) (xs : List VMaker) (w : World) (h : IsMakerS w a len cap xs) (_ : xs.length ≤ 1048576) (_ : ∀ s ∈ xs, s.sized) :
    Calls Try.prog 34 #[.slice a len cap] w (AreMakers_Post xs w) := by
  have S := Lib.hid h
  clear h
  go_enter Try.func34, Try.ntmps34
  go_wp2_with fail
  refine (l7Good_any _ _ _ xs _ S.out).mono ?_
  rintro e w1 ⟨rfl, hb⟩
  have B := Lib.hid hb
  clear hb
  go_wp2
  go_ret
  exact ⟨rfl, B.out⟩
theorem lineMk_idx {xs : List VMaker} {id : Int} {i : Nat} (h : mkSel xs id = (i : Int)) : lineMk xs id = (lineI xs i).map (mkAt xs) := by
  unfold lineMk; rw [h, lineZ_nat]
theorem mkAt_get {xs : List VMaker} {J : List Nat} (hJ : ∀ j ∈ J, j < xs.length) {k j : Nat} (hj : J[k]? = some j) : ∃ s, xs[j]? = some s ∧ (J.map (mkAt xs))[k]? = some s := by
  have hl := hJ j (List.mem_of_getElem? hj)
  refine ⟨xs[j], List.getElem?_eq_getElem hl, ?_⟩
  rw [List.getElem?_map, hj]
  show some (mkAt xs j) = _
  rw [mkAt_some (List.getElem?_eq_getElem hl)]
/-- A maker's line stands in a row of places: one of them, and the maker there. -/
theorem isInts_get {w : World} {a : Option Addr} {n cap : Nat} {J : List Nat} (h : IsInts w a n cap (asInts J)) {k j : Nat} (hj : J[k]? = some j) : ∃ b o, a = some ⟨b, o, none⟩ ∧ b < w.heap.size ∧ w.cell? ⟨b, o + k, none⟩ = some (.int .i64 (j : Int)) := by
  have hk := (List.getElem?_eq_some_iff.1 hj).1
  have hn : n = J.length := by have := h.1; rw [asInts_len] at this; exact this
  obtain ⟨b, o, e, hb, hat⟩ := h.at (by omega)
  exact ⟨b, o, e, hb, hat k _ (asInts_at hj)⟩
end Go.Proofs.Ytpcibejmahhjiaa
