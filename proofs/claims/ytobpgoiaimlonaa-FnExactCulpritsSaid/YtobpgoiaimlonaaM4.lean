/- Texts in one: Cl2, Fb0, ClaimFb, AreClaimsP, Ci, BrokenClaimsP, DoHeightsFitP, Ci2. -/
import Derived.Test.YtobpgoiaimlonaaM3
import Derived.Test.YtobpgoiaimlonaaM2
import Derived.Deep.RegionHeld3
namespace Go.Proofs.Ytobpgoiaimlonaa
open Go.RowKit

/-- The marks of each claim. -/
def prsC (xs : List VClaim) : List (Int × Int) := xs.map fun x => (x.Low, x.High)
theorem areCl_prs {n : Nat} {xs : List VClaim} (h : areCl (n : Int) xs = true) : ∀ a b, (a, b) ∈ prsC xs → (0 ≤ a ∧ a < (n : Int)) ∧ 0 ≤ b ∧ b < (n : Int) := by
  intro a b hab
  obtain ⟨x, hx, e⟩ := List.mem_map.1 hab
  obtain ⟨h1, h2, h3, h4, _⟩ := clB_iff.1 ((areCl_iff.1 h).1 x hx)
  injection e with e1 e2
  subst e1 e2
  exact ⟨⟨h1, h2⟩, h3, h4⟩
theorem mem_clE {xs : List VClaim} {u v : Nat} {w : Int} : (u, v, w) ∈ clE xs ↔ ∃ x ∈ xs, (u = x.Low.toNat ∧ v = x.High.toNat ∧ w = x.Most) ∨ (u = x.High.toNat ∧ v = x.Low.toNat ∧ w = -x.Least) := by
  simp only [clE, List.mem_flatMap, List.mem_cons, Prod.mk.injEq, List.not_mem_nil, or_false]
theorem areCl_fit {n : Nat} {xs : List VClaim} (h : areCl (n : Int) xs = true) : FitM (clE xs) n 9999 := by
  intro u v w he
  obtain ⟨x, hx, hh⟩ := mem_clE.1 he
  obtain ⟨h1, h2, h3, h4, h5, h6, h7⟩ := clB_iff.1 ((areCl_iff.1 h).1 x hx)
  rcases hh with ⟨rfl, rfl, rfl⟩ | ⟨rfl, rfl, rfl⟩
  · omega
  · omega
theorem conn_walk {xs : List VClaim} {k v : Int} (h : ConnP (prsC xs) k v) : ∃ a l, WalkE (clE xs) k.toNat v.toNat a l := by
  induction h with
  | nil => exact ⟨0, 0, .nil⟩
  | fwd _ he ih =>
    obtain ⟨a, l, hw⟩ := ih
    obtain ⟨x, hx, e⟩ := List.mem_map.1 he
    injection e with e1 e2
    subst e1 e2
    exact ⟨_, _, hw.snoc (mem_clE.2 ⟨x, hx, .inl ⟨rfl, rfl, rfl⟩⟩)⟩
  | bwd _ he ih =>
    obtain ⟨a, l, hw⟩ := ih
    obtain ⟨x, hx, e⟩ := List.mem_map.1 he
    injection e with e1 e2
    subst e1 e2
    exact ⟨_, _, hw.snoc (mem_clE.2 ⟨x, hx, .inr ⟨rfl, rfl, rfl⟩⟩)⟩
def tieB (n : Int) (xs : List VClaim) (k : Int) : Bool := areCl n xs && (decide (0 ≤ k) && decide (k < n))
def TiedMarks_0 (n : Int) (xs : List VClaim) (k : Int) : List Int := if tieB n xs k = true then tiedL n.toNat (prsC xs) k else []
def TiedMarks_1 (n : Int) (xs : List VClaim) (k : Int) : Bool := tieB n xs k
/-- Are the claims sound, and all marks tied to the mark 0? -/
def toldB (n : Int) (xs : List VClaim) : Bool := areCl n xs && (decide (((tiedL n.toNat (prsC xs) 0).length : Int) = n) && soundB n.toNat xs)
def lowL (n : Nat) (xs : List VClaim) : List Int := (List.range n).map fun k => -(gD (reachL n xs k).1 0)
def LowestHeights_0 (n : Int) (xs : List VClaim) : List Int := if toldB n xs = true then lowL n.toNat xs else []
def LowestHeights_1 (n : Int) (xs : List VClaim) : Bool := toldB n xs
def HighestHeights_0 (n : Int) (xs : List VClaim) : List Int := if toldB n xs = true then (reachL n.toNat xs 0).1 else []
def HighestHeights_1 (n : Int) (xs : List VClaim) : Bool := toldB n xs
/-- All claims but one. -/
def butC (xs : List VClaim) (i : Nat) : List VClaim := xs.take i ++ xs.drop (i + 1)
def culpTo (n : Nat) (xs : List VClaim) : Nat → List Int
  | 0 => []
  | k + 1 => culpTo n xs k ++ (if soundB n (butC xs k) = true then [(k : Int)] else [])
theorem culpTo_len (n : Nat) (xs : List VClaim) : ∀ k, (culpTo n xs k).length ≤ k := by
  intro k
  induction k with
  | zero => simp [culpTo]
  | succ k ih => rw [culpTo, List.length_append]; split <;> simp <;> omega
def culpB (n : Int) (xs : List VClaim) : Bool := areCl n xs && !(soundB n.toNat xs)
def Culprits_0 (n : Int) (xs : List VClaim) : List Int := if culpB n xs = true then culpTo n.toNat xs xs.length else []
def Culprits_1 (n : Int) (xs : List VClaim) : Bool := culpB n xs
theorem areCl_but {n : Int} {xs : List VClaim} (h : areCl n xs = true) (i : Nat) : areCl n (butC xs i) = true := by
  obtain ⟨h1, h2, h3⟩ := areCl_iff.1 h
  refine areCl_iff.2 ⟨fun x hx => ?_, h2, ?_⟩
  · rw [butC, List.mem_append] at hx
    rcases hx with hx | hx
    · exact h1 x (List.mem_of_mem_take hx)
    · exact h1 x (List.mem_of_mem_drop hx)
  · rw [butC, List.length_append, List.length_take, List.length_drop]; omega
theorem areCl_nat {n : Int} {xs : List VClaim} (h : areCl n xs = true) : ∃ j : Nat, n = (j : Int) ∧ 1 ≤ j ∧ j ≤ 10 := by
  have := (areCl_iff.1 h).2.1
  exact ⟨n.toNat, by omega, by omega, by omega⟩
/-- The closed table where heights are told. -/
theorem rise_reach {n : Nat} {xs : List VClaim} {D : List (List Int)} (hc : areCl (n : Int) xs = true) (ht : (tiedL n (prsC xs) 0).length = n) (hr : RiseM n (clE xs) D) {k v : Nat} (hk : k < n) (hv : v < n) : gD (reachL n xs k).1 v = gM D k v := by
  have hn := (areCl_iff.1 hc).2.1
  refine hr.reach (areCl_fit hc) (by omega) (fun a b ha hb => ?_) hk hv
  have h0 := fun (v : Nat) (hv : v < n) => tiedL_all (areCl_prs hc) (show (0 : Int) ≤ 0 ∧ (0 : Int) < (n : Int) by omega) ht (v := (v : Int)) (by omega)
  have := conn_walk ((h0 a ha).symm.trans (h0 b hb))
  simpa using this
theorem rise_sound {n : Nat} {xs : List VClaim} {D : List (List Int)} (hc : areCl (n : Int) xs = true) (hr : RiseM n (clE xs) D) : soundB n xs = true := by
  have hn := (areCl_iff.1 hc).2.1
  exact hr.sound (areCl_fit hc) (by omega)
theorem reachL_len {n : Nat} {xs : List VClaim} (hc : areCl (n : Int) xs = true) (hs : soundB n xs = true) {k : Nat} (hk : k < n) : (reachL n xs k).1.length = n :=
  (reach_ends (areCl_fit hc) hk (List.all_eq_true.1 hs k (List.mem_range.2 hk))).1.1
theorem rise_low {n : Nat} {xs : List VClaim} {D : List (List Int)} (hc : areCl (n : Int) xs = true) (ht : (tiedL n (prsC xs) 0).length = n) (hr : RiseM n (clE xs) D) : lowL n xs = (List.range n).map fun k => -(gM D k 0) := by
  have hn := (areCl_iff.1 hc).2.1
  unfold lowL
  refine List.map_congr_left fun k hk => ?_
  rw [rise_reach hc ht hr (List.mem_range.1 hk) (show 0 < n by omega)]
theorem rise_high {n : Nat} {xs : List VClaim} {D : List (List Int)} (hc : areCl (n : Int) xs = true) (ht : (tiedL n (prsC xs) 0).length = n) (hr : RiseM n (clE xs) D) {r : List Int} (h0 : D[0]? = some r) : (reachL n xs 0).1 = r := by
  have hn := (areCl_iff.1 hc).2.1
  have hl := reachL_len hc (rise_sound hc hr) (show 0 < n by omega)
  have hrl : r.length = n := hr.tab.sq.2 r (List.mem_of_getElem? h0)
  apply List.ext_getElem?
  intro v
  by_cases hv : v < n
  · have h1 := rise_reach hc ht hr (show 0 < n by omega) hv
    rw [gM_some h0] at h1
    have e1 : r[v]? = some (gI r v) := gI_at (by omega)
    have hvl : v < (reachL n xs 0).1.length := by omega
    have e2 : (reachL n xs 0).1[v]? = some (gD (reachL n xs 0).1 v) := by rw [gD_some (List.getElem?_eq_getElem hvl)]; exact List.getElem?_eq_getElem hvl
    rw [e1, e2, h1]
  · rw [List.getElem?_eq_none (by omega), List.getElem?_eq_none (by omega)]
theorem tiedL_len {n : Nat} {xs : List VClaim} {k : Int} (h : tieB (n : Int) xs k = true) : (tiedL n (prsC xs) k).length ≤ 10 := by
  unfold tieB at h
  simp only [Bool.and_eq_true, decide_eq_true_eq] at h
  have hn := (areCl_iff.1 h.1).2.1
  have := (tiedL_is (areCl_prs h.1) h.2).2.2
  omega
theorem TiedMarks_0_len (n : Int) (xs : List VClaim) (k : Int) : (TiedMarks_0 n xs k).length ≤ 10 := by
  unfold TiedMarks_0
  split
  · rename_i h
    have hh : areCl n xs = true := by unfold tieB at h; simp only [Bool.and_eq_true] at h; exact h.1
    obtain ⟨j, rfl, _, _⟩ := areCl_nat hh
    exact tiedL_len h
  · simp
theorem LowestHeights_0_len (n : Int) (xs : List VClaim) : (LowestHeights_0 n xs).length ≤ 10 := by
  unfold LowestHeights_0
  split
  · rename_i h
    have hh : areCl n xs = true := by unfold toldB at h; simp only [Bool.and_eq_true] at h; exact h.1
    obtain ⟨j, rfl, _, _⟩ := areCl_nat hh
    simp [lowL]; omega
  · simp
theorem HighestHeights_0_len (n : Int) (xs : List VClaim) : (HighestHeights_0 n xs).length ≤ 10 := by
  unfold HighestHeights_0
  split
  · rename_i h
    unfold toldB at h
    simp only [Bool.and_eq_true] at h
    obtain ⟨j, rfl, _, _⟩ := areCl_nat h.1
    rw [Int.toNat_natCast] at h ⊢
    rw [reachL_len h.1 h.2.2 (by omega)]; omega
  · simp
theorem Culprits_0_len (n : Int) (xs : List VClaim) : (Culprits_0 n xs).length ≤ 24 := by
  unfold Culprits_0
  split
  · rename_i h
    have hh : areCl n xs = true := by unfold culpB at h; simp only [Bool.and_eq_true] at h; exact h.1
    have := (areCl_iff.1 hh).2.2
    exact Nat.le_trans (culpTo_len _ _ _) this
  · simp
theorem TiedMarks_0_cnt (n : Int) (xs : List VClaim) (k : Int) (_ : condClaim xs) : cntInt (TiedMarks_0 n xs k) ≤ 1000000 := Nat.le_trans (TiedMarks_0_len n xs k) (by decide)
theorem LowestHeights_0_cnt (n : Int) (xs : List VClaim) (_ : condClaim xs) : cntInt (LowestHeights_0 n xs) ≤ 1000000 := Nat.le_trans (LowestHeights_0_len n xs) (by decide)
theorem HighestHeights_0_cnt (n : Int) (xs : List VClaim) (_ : condClaim xs) : cntInt (HighestHeights_0 n xs) ≤ 1000000 := Nat.le_trans (HighestHeights_0_len n xs) (by decide)
theorem Culprits_0_cnt (n : Int) (xs : List VClaim) (_ : condClaim xs) : cntInt (Culprits_0 n xs) ≤ 1000000 := Nat.le_trans (Culprits_0_len n xs) (by decide)
theorem BrokenClaims_0_cnt (n : Int) (xs : List VClaim) (hs : List Int) (_ : condClaim xs) (_ : condInt hs) : cntInt (BrokenClaims_0 n xs hs) ≤ 1000000 := by
  unfold BrokenClaims_0 cntInt
  split
  · rename_i h
    simp only [Bool.and_eq_true] at h
    exact Nat.le_trans (brokenTo_len hs xs _) (by have := (areCl_iff.1 h.1).2.2; omega)
  · simp
end Go.Proofs.Ytobpgoiaimlonaa
namespace Go.Proofs.Ytobpgoiaimlonaa
open Go.RowKit
/-- The place of the first element that fits, where the list is valid, and whether there is one. -/
def FoundBy {α : Type} (q : Bool) (f : α → Bool) (xs : List α) (w : World) (e : Ending) (w' : World) : Prop :=
  ∃ z : Int, e = .returned (.tuple #[.int .i64 z, .bool (q && decide (0 ≤ firstOf f xs))]) ∧ (q = true → z = firstOf f xs) ∧ Below w.heap.size w w'
theorem FoundBy.bad {α : Type} {q : Bool} {f : α → Bool} {xs : List α} {w w' : World} {e : Ending} (h : FoundBy q f xs w e w') (hq : q = false) : ∃ z : Int, e = .returned (.tuple #[.int .i64 z, .bool false]) ∧ Below w.heap.size w w' := by
  obtain ⟨z, rfl, _, hb⟩ := h
  exact ⟨z, by rw [hq]; rfl, hb⟩
theorem FoundBy.none {α : Type} {q : Bool} {f : α → Bool} {xs : List α} {w w' : World} {e : Ending} (h : FoundBy q f xs w e w') (hn : firstOf f xs = -1) : ∃ z : Int, e = .returned (.tuple #[.int .i64 z, .bool false]) ∧ Below w.heap.size w w' := by
  obtain ⟨z, rfl, _, hb⟩ := h
  exact ⟨z, by rw [hn]; simp, hb⟩
theorem FoundBy.some {α : Type} {q : Bool} {f : α → Bool} {xs : List α} {w w' : World} {e : Ending} {i : Nat} (h : FoundBy q f xs w e w') (hq : q = true) (hn : firstOf f xs = (i : Int)) : e = .returned (.tuple #[.int .i64 (i : Int), .bool true]) ∧ Below w.heap.size w w' := by
  obtain ⟨z, rfl, hz, hb⟩ := h
  rw [hz hq, hn, hq, decide_eq_true (by omega)]
  exact ⟨rfl, hb⟩
theorem firstOf_any {α : Type} (f : α → Bool) (xs : List α) : decide (0 ≤ firstOf f xs) = xs.any f := by
  rcases firstOf_cases f xs with ⟨h1, h2⟩ | ⟨i, s, h1, h2, h3, _⟩
  · rw [h1, show xs.any f = false from by rw [List.any_eq_false]; intro x hx; simp [h2 x hx]]; rfl
  · rw [h1, show xs.any f = true from List.any_eq_true.2 ⟨s, List.mem_of_getElem? h2, h3⟩, decide_eq_true (by omega)]
end Go.Proofs.Ytobpgoiaimlonaa
namespace Go.Proofs.Ytobpgoiaimlonaa
open Go.RowKit

set_option maxHeartbeats 1600000 in
theorem containsClaim_any (K : FuncId) (caps : Array Value) (f : VClaim → Bool) (a : Option Addr) (len cap : Nat) (xs : List VClaim) (w : World) (h : IsClaimS w a len cap xs)
    (hcall : ∀ args W, (callFunc K args).run Try.prog W = .ok (.enter K args) W)
    (hf : ∀ W s, s ∈ xs → Below w.heap.size w W → Calls Try.prog K (#[.agg #[.int .i64 s.Low, .int .i64 s.High, .int .i64 s.Least, .int .i64 s.Most]] ++ caps) W fun e w' => e = .returned (.bool (f s)) ∧ Below W.heap.size W w') :
    Calls Try.prog 74 #[.slice a len cap, .func (.func K) #[] caps] w fun e w' => e = .returned (.bool (xs.any f)) ∧ Below w.heap.size w w' := by
  have S := Lib.hid h
  have HF := Lib.hid hf
  have HC := Lib.hid hcall
  have E := Lib.hid (firstOf_any f xs)
  clear h hf hcall
  go_enter Try.func74, Try.ntmps74
  go_wp2_with fail
  refine (idxClaim_any K caps f _ _ _ xs _ S.out HC.out HF.out).mono ?_
  rintro e w1 ⟨rfl, hb⟩
  have B := Lib.hid hb
  clear hb
  obtain ⟨z, hz⟩ : ∃ z, firstOf f xs = z := ⟨_, rfl⟩
  rw [hz]
  have E2 := Lib.hid (show decide (0 ≤ z) = xs.any f from by rw [← hz]; exact E.out)
  clear hz
  go_wp2
  go_ret
  exact ⟨ret_bool E2.out, B.out⟩
end Go.Proofs.Ytobpgoiaimlonaa
namespace Go.Proofs.Ytobpgoiaimlonaa
open Go.RowKit
def AreClaims_Post (z0 : Int) (z1 : List VClaim) (w : World) (e : Ending) (w' : World) : Prop :=
  e = .returned (.bool (AreClaims_0 z0 z1)) ∧ Below w.heap.size w w'
end Go.Proofs.Ytobpgoiaimlonaa
namespace Go.Proofs.Ytobpgoiaimlonaa
open Go.RowKit

theorem areC1 (lo hi x : Int) (t : TypeId) (w : World) (B : Nat) (hB : w.heap.size = B) :
    Calls Try.prog 66 #[.int .i64 lo, .int .i64 hi, .slice (some ⟨B, 0, none⟩) 1 1] (w.alloc (.cells #[.int .i64 x] t)) fun e w' => e = .returned (.bool (inB x lo hi)) ∧ w.alloc (.cells #[.int .i64 x] t) = w' :=
  (areInRange_any B 1 1 [x] lo hi _ rfl (by omega) (lit1 w x t B hB)).mono fun e w' h => ⟨by rw [h.1]; simp, h.2⟩
theorem areC2 (lo hi x y : Int) (t : TypeId) (w : World) (B : Nat) (hB : w.heap.size = B) :
    Calls Try.prog 66 #[.int .i64 lo, .int .i64 hi, .slice (some ⟨B, 0, none⟩) 2 2] (w.alloc (.cells #[.int .i64 x, .int .i64 y] t)) fun e w' => e = .returned (.bool (inB x lo hi && inB y lo hi)) ∧ w.alloc (.cells #[.int .i64 x, .int .i64 y] t) = w' :=
  (areInRange_any B 2 2 [x, y] lo hi _ rfl (by omega) (lit2 w x y t B hB)).mono fun e w' h => ⟨by rw [h.1]; simp, h.2⟩
theorem clB_prog (n : Int) (s : VClaim) : clB n s = ((inB s.Low 0 (n - 1) && inB s.High 0 (n - 1)) && ((!(s.Low == s.High)) && ((inB s.Least (-9999) 9999 && inB s.Most (-9999) 9999) && decide (s.Least ≤ s.Most)))) := by
  rw [Bool.eq_iff_iff, clB_iff]
  simp [inB]
  omega
set_option maxHeartbeats 3200000 in
theorem isClaim_any (n : Int) (s : VClaim) (w : World) (h0 : 0 ≤ n) (h1 : n ≤ 10) :
    Calls Try.prog 67 #[.int .i64 n, .agg #[.int .i64 s.Low, .int .i64 s.High, .int .i64 s.Least, .int .i64 s.Most]] w fun e w' => e = .returned (.bool (clB n s)) ∧ Below w.heap.size w w' := by
  obtain ⟨q1, e1⟩ : ∃ q, (inB s.Low 0 (n - 1) && inB s.High 0 (n - 1)) = q := ⟨_, rfl⟩
  obtain ⟨q3, e3⟩ : ∃ q, (inB s.Least (-9999) 9999 && inB s.Most (-9999) 9999) = q := ⟨_, rfl⟩
  have H1 := Lib.hid e1
  have H3 := Lib.hid e3
  have CB := Lib.hid (show clB n s = (q1 && ((!(s.Low == s.High)) && (q3 && decide (s.Least ≤ s.Most)))) from by rw [clB_prog, e1, e3])
  have X0 := Lib.hid (BoxClaim.new w 38 s _ rfl)
  have B0 := Lib.hid (bel_al1 w (.cells #[.int .i64 s.Low, .int .i64 s.High, .int .i64 s.Least, .int .i64 s.Most] 38))
  have w1 : IntKind.i64.wrap (n - 1) = n - 1 := IntWalk.i64_in _ (by omega)
  clear e1 e3
  go_enter Try.func67, Try.ntmps67
  go_wp2_with fail
  refine (areC2 0 (n - 1) s.Low s.High _ _ _ (by simp)).mono ?_
  rintro e w' ⟨rfl, rfl⟩
  rw [H1.out]
  have ba := bel_al1 (w.alloc (.cells #[.int .i64 s.Low, .int .i64 s.High, .int .i64 s.Least, .int .i64 s.Most] 38)) (.cells #[.int .i64 s.Low, .int .i64 s.High] 3)
  have B1 := Lib.hid (Below.then' B0.out ba)
  have X1 := Lib.hid (X0.out.below ba)
  cases q1
  · go_wp2
    go_ret
    exact ⟨ret_bool (by rw [CB.out]; rfl), B1.out⟩
  obtain ⟨c0, c1, c2, c3⟩ := X1.out
  by_cases he : s.Low = s.High
  · have b1 : (s.Low == s.High) = true := by simp [he]
    have b2 : (s.Low != s.High) = false := by simp [he]
    have CC := Lib.hid (show clB n s = false from by rw [CB.out, b1]; rfl)
    clear he
    go_wp2
    go_ret
    exact ⟨ret_bool CC.out.symm, B1.out⟩
  have b1 : (s.Low == s.High) = false := by simp [he]
  have b2 : (s.Low != s.High) = true := by simp [he]
  have CC := Lib.hid (show clB n s = (q3 && decide (s.Least ≤ s.Most)) from by rw [CB.out, b1]; rfl)
  clear he
  go_wp2_with fail
  refine (areC2 (-9999) 9999 s.Least s.Most _ _ _ (by simp)).mono ?_
  rintro e w' ⟨rfl, rfl⟩
  rw [H3.out]
  have bb := bel_al1 ((w.alloc (.cells #[.int .i64 s.Low, .int .i64 s.High, .int .i64 s.Least, .int .i64 s.Most] 38)).alloc (.cells #[.int .i64 s.Low, .int .i64 s.High] 3)) (.cells #[.int .i64 s.Least, .int .i64 s.Most] 3)
  have B2 := Lib.hid (Below.then' B1.out bb)
  clear c0 c1 c2 c3
  obtain ⟨c0, c1, c2, c3⟩ := X1.out.below bb
  cases q3
  · go_wp2
    go_ret
    exact ⟨ret_bool (by rw [CC.out]; rfl), B2.out⟩
  by_cases hle : s.Least ≤ s.Most
  · have D := Lib.hid (decide_eq_true hle)
    go_wp2
    go_ret
    exact ⟨ret_bool (by rw [CC.out, D.out]; rfl), B2.out⟩
  · have D := Lib.hid (decide_eq_false hle)
    have hle2 : s.Most < s.Least := by omega
    go_wp2
    go_ret
    exact ⟨ret_bool (by rw [CC.out, D.out]; rfl), B2.out⟩
set_option maxHeartbeats 1600000 in
theorem badClaim_any (n : Int) (b : Nat) (s : VClaim) (w : World) (hc : w.cell? ⟨b, 0, none⟩ = some (.int .i64 n)) (h0 : 0 ≤ n) (h1 : n ≤ 10) :
    Calls Try.prog 75 #[.agg #[.int .i64 s.Low, .int .i64 s.High, .int .i64 s.Least, .int .i64 s.Most], .pointer (some ⟨b, 0, none⟩)] w fun e w' => e = .returned (.bool (!(clB n s))) ∧ Below w.heap.size w w' := by
  have b0 := bel_al1 w (.cells #[.int .i64 s.Low, .int .i64 s.High, .int .i64 s.Least, .int .i64 s.Most] 38)
  have g0 := cell_stay' hc b0
  obtain ⟨c0, c1, c2, c3⟩ := BoxClaim.new w 38 s _ rfl
  have B0 := Lib.hid b0
  clear b0 hc
  go_enter Try.func75, Try.ntmps75
  go_wp2_with fail
  refine (isClaim_any n s _ h0 h1).mono ?_
  rintro e w2 ⟨rfl, hb⟩
  have B2 := Lib.hid (Below.then' B0.out hb)
  clear hb
  go_wp2
  go_ret
  exact ⟨rfl, B2.out⟩
set_option maxHeartbeats 3200000 in
theorem implAreClaims_any (n : Int) (a : Option Addr) (len cap : Nat) (xs : List VClaim) (w : World) (h : IsClaimS w a len cap xs) :
    Calls Try.prog 34 #[.int .i64 n, .slice a len cap] w (AreClaims_Post n xs w) := by
  have hm := h.2.2.1
  have hcl := h.2.1
  unfold maxLen at hm
  obtain rfl := h.1
  have S := Lib.hid h
  have B0 := Lib.hid (bel_al1 w (.cells #[.int .i64 n] 3))
  have g0 := cell_box w (.int .i64 n) 3 _ rfl
  clear h
  obtain ⟨q, hq⟩ : ∃ q, inB n 1 10 = q := ⟨_, rfl⟩
  have Q := Lib.hid hq
  clear hq
  have G0 := Lib.hid g0
  go_enter Try.func34, Try.ntmps34
  go_wp2_with fail
  refine (areC1 1 10 n _ _ _ (by simp)).mono ?_
  rintro e w' ⟨rfl, rfl⟩
  rw [Q.out]
  have ba := bel_al1 (w.alloc (.cells #[.int .i64 n] 3)) (.cells #[.int .i64 n] 3)
  have B1 := Lib.hid (Below.then' B0.out ba)
  have G1 := Lib.hid (cell_stay G0.out ba)
  have S1 := Lib.hid (S.out.below B1.out)
  clear ba g0
  cases q
  · have E := Lib.hid (show areCl n xs = false from by unfold areCl; rw [Q.out]; simp)
    go_wp2
    go_ret
    exact ⟨ret_bool (show _ = AreClaims_0 n xs from E.out.symm), B1.out⟩
  have hn := inB_iff.1 Q.out
  by_cases hl : xs.length ≤ 24
  · have hl2 : ¬ 24 < (xs.length : Int) := by omega
    have hl3 : (xs.length : Int) ≤ 24 := by omega
    have E := Lib.hid (show areCl n xs = !(xs.any fun c => !(clB n c)) from by
      unfold areCl; rw [Q.out, decide_eq_true hl]
      rw [Bool.eq_iff_iff]; simp)
    clear hl
    go_wp2_with fail
    refine (containsClaim_any 75 #[.pointer (some ⟨w.heap.size, 0, none⟩)] (fun c => !(clB n c)) _ _ _ xs _ S1.out (enters_fn' Try.func75 (by kernel_rfl) (by kernel_rfl)) (fun W s _ hW => by
      have h1 := badClaim_any n w.heap.size s W (cell_stay G1.out hW) (by omega) (by omega)
      simpa using h1)).mono ?_
    rintro e w2 ⟨rfl, hb⟩
    have B2 := Lib.hid (Below.then' B1.out hb)
    clear hb
    obtain ⟨r, hr⟩ : ∃ r, (xs.any fun c => !(clB n c)) = r := ⟨_, rfl⟩
    rw [hr] at E ⊢
    clear hr
    go_wp2
    go_ret
    exact ⟨ret_bool (show _ = AreClaims_0 n xs from E.out.symm), B2.out⟩
  · have hl2 : 24 < (xs.length : Int) := by omega
    have E := Lib.hid (show areCl n xs = false from by unfold areCl; rw [decide_eq_false hl]; simp)
    clear hl
    go_wp2
    go_ret
    exact ⟨ret_bool (show _ = AreClaims_0 n xs from E.out.symm), B1.out⟩
/-- The numbers below k that f likes. -/
def numsTo (f : Nat → Bool) : Nat → List Int
  | 0 => []
  | k + 1 => numsTo f k ++ (if f k = true then [(k : Int)] else [])
theorem numsTo_len (f : Nat → Bool) : ∀ k, (numsTo f k).length ≤ k := by
  intro k
  induction k with
  | zero => simp [numsTo]
  | succ k ih => rw [numsTo, List.length_append]; split <;> simp <;> omega
set_option maxHeartbeats 6400000 in
set_option maxRecDepth 100000 in
theorem numbersWhere_any (n : Nat) (hn : n ≤ 1000000) (K : FuncId) (caps : Array Value) (f : Nat → Bool) (w : World)
    (hcall : ∀ args W, (callFunc K args).run Try.prog W = .ok (.enter K args) W)
    (hf : ∀ (W : World) (i : Nat), i < n → Below w.heap.size w W → Calls Try.prog K (#[.int .i64 (i : Int)] ++ caps) W fun e w' => e = .returned (.bool (f i)) ∧ Below W.heap.size W w') :
    Calls Try.prog 56 #[.int .i64 (n : Int), .func (.func K) #[] caps] w (IdsOwn (numsTo f n) w) := by
  obtain ⟨i0, hi, hz0, hz1, hz2⟩ := info_parts infoInt
  have F := Lib.hid hf
  clear hf
  go_enter Try.func56, Try.ntmps56
  go_wp2
  go_loopw [8, 5] (fun i o wr => ∃ k : Nat, k ≤ n ∧ i = .int .i64 k ∧ wr.ownsRow w.heap.size 3 1 o (numsTo f k).length (intCells (numsTo f k)) ∧ Below w.heap.size w wr) (fun i _ _ => n - (intOf i).toNat)
  case atStart => exact ⟨0, Nat.zero_le _, rfl, ⟨by simp [intCells, numsTo], .inl ⟨rfl, rfl⟩⟩, Below.refl _ _⟩
  case round =>
    obtain ⟨k, hk, rfl, hown, hbel⟩ := hrel
    have B := Lib.hid hbel
    by_cases hlt : k < n
    · have hgl := numsTo_len f k
      have FS := Lib.hid (show numsTo f (k + 1) = numsTo f k ++ (if f k = true then [(k : Int)] else []) from rfl)
      obtain ⟨G, hG⟩ : ∃ G, numsTo f k = G := ⟨_, rfl⟩
      rw [hG] at hown FS hgl
      have O := Lib.hid hown
      obtain ⟨r, hr⟩ : ∃ r, f k = r := ⟨_, rfl⟩
      have RR := Lib.hid hr
      have hsz := B.out.size
      have hlt2 : (k : Int) < (n : Int) := by omega
      clear hown hbel hG hr
      go_wp2_with fail
      refine (F.out _ k hlt B.out).mono ?_
      rintro e w2 ⟨rfl, hb⟩
      rw [RR.out]
      have B2 := Lib.hid (Below.then' B.out hb)
      have O2 := Lib.hid (ownsRow_below O.out hb)
      have hs2 := hb.size
      clear hb
      cases r
      · go_wp2
        go_roundw
        case rel => exact ⟨k + 1, by omega, by go_num, by rw [FS.out, RR.out]; simpa using O2.out, B2.out⟩
        case measure => simp [intOf]; omega
      · have hown3 := (O2.out).alloc (.cells #[.int .i64 (k : Int)] 3)
        go_wp2_with (at_builtin; refine wpList_append_own _ rfl _ _ 25 rfl w.heap.size 3 i0 (.int .i64 0) 1 8 Try.underlying25 hi hz0 hz1 hz2 rfl (by decide) _ _ _ rfl hown3 ⟨w2.heap.size, 0, none⟩ 1 1 [.int .i64 (k : Int)] rfl rfl (cell_one _ _ _) (fun x hx => by simp at hx; subst hx; rfl) (by unfold maxLen; omega) (by omega) (by simp; omega) ?_; intro v' w4 hown' hgrow4 hnil4)
        go_roundw
        case rel =>
          refine ⟨k + 1, by omega, by go_num, ?_, (Below.then' B2.out (wh_al1 _ _)).grown hgrow4 (by simp; omega) (fun j e => (hown3.lt j e).1)⟩
          rw [FS.out, RR.out, if_pos rfl, intCells_snoc]
          rw [List.length_append]
          exact hown'
        case measure => simp [intOf]; omega
    · obtain rfl : k = n := by omega
      have O := Lib.hid hown
      clear hbel hown
      go_wp2
      go_ret
      exact ⟨_, rfl, O.out, B.out⟩
end Go.Proofs.Ytobpgoiaimlonaa
namespace Go.Proofs.Ytobpgoiaimlonaa
open Go.RowKit
def BrokenClaims_Post (z0 : Int) (z1 : List VClaim) (z2 : List Int) (w : World) (e : Ending) (w' : World) : Prop :=
  ∃ v0 : Value, e = .returned (.tuple #[v0, .bool (BrokenClaims_1 z0 z1 z2)]) ∧ OwnIntS w.heap.size w'.heap.size w' v0 (BrokenClaims_0 z0 z1 z2) ∧ Below w.heap.size w w'
end Go.Proofs.Ytobpgoiaimlonaa
namespace Go.Proofs.Ytobpgoiaimlonaa
open Go.RowKit
def DoHeightsFit_Post (z0 : Int) (z1 : List VClaim) (z2 : List Int) (w : World) (e : Ending) (w' : World) : Prop :=
  e = .returned (.tuple #[.bool (DoHeightsFit_0 z0 z1 z2), .bool (DoHeightsFit_1 z0 z1 z2)]) ∧ Below w.heap.size w w'
end Go.Proofs.Ytobpgoiaimlonaa
namespace Go.Proofs.Ytobpgoiaimlonaa
open Go.RowKit

set_option maxHeartbeats 800000 in
/-- Are all numbers of a slice in lo .. hi? (a slice of any place) -/
theorem areInR_any (a : Option Addr) (n c : Nat) (zs : List Int) (lo hi : Int) (w : World) (h : IsInts w a n c zs) :
    Calls Try.prog 66 #[.int .i64 lo, .int .i64 hi, .slice a n c] w fun e w' => e = .returned (.bool (zs.all fun z => inB z lo hi)) ∧ w = w' := by
  have hm := h.2.2.1
  have hcl := h.2.1
  unfold maxLen at hm
  obtain rfl := h.1
  have S0 := Lib.hid h
  clear h
  go_enter Try.func66, Try.ntmps66
  go_wp2
  go_loop [11, 8] (fun i _ => ∃ k : Nat, k ≤ zs.length ∧ i = .int .i64 k ∧ ((zs.take k).all fun z => inB z lo hi) = true) (fun i _ => zs.length - (intOf i).toNat)
  case atStart => exact ⟨0, Nat.zero_le _, rfl, rfl⟩
  case round =>
    obtain ⟨k, hk, rfl, hall⟩ := hrel
    have H := Lib.hid hall
    clear hall
    by_cases hlt : k < zs.length
    · obtain ⟨z, hz⟩ : ∃ z, zs[k]? = some z := ⟨zs[k]'hlt, List.getElem?_eq_getElem _⟩
      obtain ⟨b, o, rfl, _, hat⟩ := S0.out.at (by omega)
      have hcell := hat k z hz
      have S := Lib.hid (all_snoc zs k z lo hi hz)
      have T := Lib.hid (List.mem_of_getElem? hz)
      have hi0 : (0 : Int) ≤ (k : Int) := by omega
      have hi1 : (k : Int) < (zs.length : Int) := by omega
      clear hz hat
      by_cases hin : inB z lo hi = true
      · obtain ⟨h1, h2⟩ := inB_iff.1 hin
        have I := Lib.hid hin
        clear hin
        go_wp2
        go_round
        case rel => exact ⟨k + 1, by omega, by go_num, by rw [S.out, H.out, I.out]; rfl⟩
        case measure => simp [intOf]; omega
      · have hin' : inB z lo hi = false := by simpa using hin
        have h1 := inB_not.1 hin'
        have I := Lib.hid hin'
        have hF : (zs.all fun z => inB z lo hi) = false := by
          rw [List.all_eq_false]; exact ⟨z, T.out, by simp [I.out]⟩
        have F := Lib.hid hF
        clear hin hin' hF
        by_cases h2 : z < lo
        · clear h1
          go_wp2
          go_ret
          exact ⟨ret_bool F.out.symm, rfl⟩
        · have h3 : hi < z := by omega
          clear h1
          go_wp2
          go_ret
          exact ⟨ret_bool F.out.symm, rfl⟩
    · obtain rfl : k = zs.length := by omega
      go_wp2
      go_ret
      exact ⟨ret_bool (by rw [← H.out, List.take_of_length_le (Nat.le_refl _)]), rfl⟩
theorem areHeights_any (a : Option Addr) (n c : Nat) (zs : List Int) (w : World) (h : IsInts w a n c zs) :
    Calls Try.prog 55 #[.slice a n c] w fun e w' => e = .returned (.bool (zs.all fun z => inB z (-200000) 200000)) ∧ w = w' := by
  have S := Lib.hid h
  clear h
  go_enter Try.func55, Try.ntmps55
  go_wp2_with fail
  refine (areInR_any _ _ _ zs (-200000) 200000 _ S.out).mono ?_
  rintro e w' ⟨rfl, rfl⟩
  go_wp2
  go_ret
  exact ⟨rfl, rfl⟩
/-- Does the claim at a place not hold? -/
def brokenI (hs : List Int) (xs : List VClaim) (i : Nat) : Bool := match xs[i]? with | some x => !(holdsB hs x) | none => false
theorem broken_nums (hs : List Int) (xs : List VClaim) : ∀ k, numsTo (brokenI hs xs) k = brokenTo hs xs k := by
  intro k
  induction k with
  | zero => rfl
  | succ k ih =>
    rw [numsTo, brokenTo, ih]
    unfold brokenI
    cases xs[k]? with
    | none => rfl
    | some x => cases hh : holdsB hs x <;> simp [hh]
theorem areC1d (lo hi x : Int) (t : TypeId) (w : World) (B : Nat) (hB : w.heap.size = B) :
    Calls Try.prog 66 #[.int .i64 lo, .int .i64 hi, .slice (some ⟨B, 0, none⟩) 1 1] (w.alloc (.cells #[.int .i64 x] t)).drew fun e w' => e = .returned (.bool (inB x lo hi)) ∧ (w.alloc (.cells #[.int .i64 x] t)).drew = w' :=
  (areInRange_any B 1 1 [x] lo hi (w.alloc (.cells #[.int .i64 x] t)).drew rfl (by omega) (lit1 w x t B hB)).mono fun e w' h => ⟨by rw [h.1]; simp, h.2⟩
theorem hgt_at {hs : List Int} (h : (hs.all fun z => inB z (-200000) 200000) = true) {k : Nat} {y : Int} (hy : hs[k]? = some y) : -200000 ≤ y ∧ y ≤ 200000 := inB_iff.1 (List.all_eq_true.1 h y (List.mem_of_getElem? hy))
set_option maxHeartbeats 6400000 in
set_option maxRecDepth 100000 in
theorem doesHold_any (s : VClaim) (a : Option Addr) (len cap : Nat) (hs : List Int) (lo hi : Nat) (w : World) (h : IsInts w a len cap hs) (hb : (hs.all fun z => inB z (-200000) 200000) = true) (el : s.Low = (lo : Int)) (eh : s.High = (hi : Int)) (hl : lo < hs.length) (hh : hi < hs.length) :
    Calls Try.prog 58 #[.agg #[.int .i64 s.Low, .int .i64 s.High, .int .i64 s.Least, .int .i64 s.Most], .slice a len cap] w fun e w' => e = .returned (.bool (holdsB hs s)) ∧ Below w.heap.size w w' := by
  obtain ⟨y, hy⟩ : ∃ y, hs[lo]? = some y := ⟨_, List.getElem?_eq_getElem hl⟩
  obtain ⟨z, hz⟩ : ∃ z, hs[hi]? = some z := ⟨_, List.getElem?_eq_getElem hh⟩
  have y1 := hgt_at hb hy
  have z1 := hgt_at hb hz
  have E := Lib.hid (show holdsB hs s = inB (z - y) s.Least s.Most from by unfold holdsB; rw [el, eh, atI_some hy, atI_some hz])
  have b0 := bel_al1 w (.cells #[.int .i64 s.Low, .int .i64 s.High, .int .i64 s.Least, .int .i64 s.Most] 38)
  obtain ⟨b, o, rfl, _, hat⟩ := (h.below b0).at (by rw [h.1]; omega)
  have hL := Lib.hid h.1
  obtain rfl := h.1
  have g0 := hat lo y hy
  have g1 := hat hi z hz
  obtain ⟨c0, c1, c2, c3⟩ := BoxClaim.new w 38 s _ rfl
  have B0 := Lib.hid b0
  obtain ⟨sl, sh, le, mo⟩ := s
  simp only [] at el eh c0 c1 c2 c3 E
  subst el eh
  have i0 : (0 : Int) ≤ (lo : Int) := by omega
  have i1 : (lo : Int) < (hs.length : Int) := by omega
  have i2 : (0 : Int) ≤ (hi : Int) := by omega
  have i3 : (hi : Int) < (hs.length : Int) := by omega
  have w1 : IntKind.i64.wrap (z - y) = z - y := IntWalk.i64_in _ (by omega)
  clear h hb b0 hat hy hz y1 z1
  go_enter Try.func58, Try.ntmps58
  go_wp2
  refine wp_world (fun W => W.cell? ⟨w.heap.size, 0, none⟩ = some (.int .i64 (lo : Int)) ∧ W.cell? ⟨w.heap.size, 1, none⟩ = some (.int .i64 (hi : Int)) ∧ W.cell? ⟨w.heap.size, 2, none⟩ = some (.int .i64 le) ∧ W.cell? ⟨w.heap.size, 3, none⟩ = some (.int .i64 mo) ∧ W.cell? ⟨b, o + lo, none⟩ = some (.int .i64 y) ∧ W.cell? ⟨b, o + hi, none⟩ = some (.int .i64 z) ∧ Below w.heap.size w W) ⟨c0, c1, c2, c3, g0, g1, B0.out⟩ ?_
  clear c0 c1 c2 c3 g0 g1 B0
  rintro W ⟨c0, c1, c2, c3, g0, g1, hbw⟩
  have B0 := Lib.hid hbw
  clear hbw
  go_region_held3 (fun w' => w'.cell? ⟨w.heap.size, 0, none⟩ = some (.int .i64 (lo : Int)) ∧ w'.cell? ⟨w.heap.size, 1, none⟩ = some (.int .i64 (hi : Int)) ∧ w'.cell? ⟨w.heap.size, 2, none⟩ = some (.int .i64 le) ∧ w'.cell? ⟨w.heap.size, 3, none⟩ = some (.int .i64 mo) ∧ w'.cell? ⟨b, o + lo, none⟩ = some (.int .i64 y) ∧ w'.cell? ⟨b, o + hi, none⟩ = some (.int .i64 z)) (go_keep) (first | (go_at_call 66; refine (areC1d le mo (z - y) _ _ _ rfl).mono ?_; rintro e w' ⟨rfl, rfl⟩))
  all_goals go_wp2
  all_goals go_ret
  all_goals exact ⟨ret_bool E.out.symm, bel_drew' (Below.then' B0.out (bel_al1 _ _))⟩
set_option maxHeartbeats 3200000 in
set_option maxRecDepth 100000 in
theorem brokenAt_any (bc bh : Nat) (a : Option Addr) (len cap : Nat) (xs : List VClaim) (a' : Option Addr) (len' cap' : Nat) (hs : List Int) (i : Nat) (n : Int) (w : World) (h1 : w.cell? ⟨bc, 0, none⟩ = some (.slice a len cap)) (h2 : w.cell? ⟨bh, 0, none⟩ = some (.slice a' len' cap')) (h : IsClaimS w a len cap xs) (h' : IsInts w a' len' cap' hs) (hc : areCl n xs = true) (hg : hgtB n hs = true) (hi : i < xs.length) :
    Calls Try.prog 57 #[.int .i64 (i : Int), .pointer (some ⟨bc, 0, none⟩), .pointer (some ⟨bh, 0, none⟩)] w fun e w' => e = .returned (.bool (brokenI hs xs i)) ∧ Below w.heap.size w w' := by
  obtain ⟨s, hs1⟩ : ∃ s, xs[i]? = some s := ⟨xs[i]'hi, List.getElem?_eq_getElem _⟩
  obtain ⟨q1, q2, q3, q4, _⟩ := clB_iff.1 ((areCl_iff.1 hc).1 s (List.mem_of_getElem? hs1))
  have hb : (hs.all fun z => inB z (-200000) 200000) = true ∧ (hs.length : Int) = n := by unfold hgtB at hg; simpa using hg
  obtain ⟨lo, el⟩ : ∃ lo : Nat, s.Low = (lo : Int) := ⟨s.Low.toNat, by omega⟩
  obtain ⟨hi', eh⟩ : ∃ hi : Nat, s.High = (hi : Int) := ⟨s.High.toNat, by omega⟩
  have E := Lib.hid (show brokenI hs xs i = !(holdsB hs s) from by unfold brokenI; rw [hs1])
  have I := Lib.hid h'
  have HB := Lib.hid hb.1
  have hlo : lo < hs.length := by have := hb.2; omega
  have hhi : hi' < hs.length := by have := hb.2; omega
  have hl1 := h.2.1
  have hm1 := h.2.2.1
  unfold maxLen at hm1
  obtain ⟨b, o, rfl, _, hat⟩ := h.at (by rw [h.1]; omega)
  obtain rfl := h.1
  obtain ⟨c0, c1, c2, c3⟩ := hat i s hs1
  have i0 : (0 : Int) ≤ (i : Int) := by omega
  have i1 : (i : Int) < (xs.length : Int) := by omega
  have EL := Lib.hid el
  have EH := Lib.hid eh
  clear hs1 q1 q2 q3 q4 hb el eh h h' hat hc hg
  go_enter Try.func57, Try.ntmps57
  go_wp2
  have k0 := cell_regrown c0
  have k1 := cell_regrown c1
  have k2 := cell_regrown c2
  have k3 := cell_regrown c3
  have k4 := cell_regrown h1
  have k5 := cell_regrown h2
  clear c0 c1 c2 c3 h1 h2
  have cQ := below_at (W := w) (fun W' hW => doesHold_any s a' len' cap' hs lo hi' W' (I.out.below hW) HB.out EL.out EH.out hlo hhi)
  refine wp_region_quiet_below (by kernel_rfl) (by kernel_rfl) ?_
  repeat (first | go_big_quiet_step (exact cQ _ _) | quiet_step (exact cQ _ _))
  refine wpQuiet_nil ?_
  intro W2 hw2
  have B2 := Lib.hid (below_of_re hw2)
  clear hw2 cQ k0 k1 k2 k3 k4 k5
  go_wp2
  go_ret
  exact ⟨ret_bool E.out.symm, B2.out⟩
set_option maxHeartbeats 6400000 in
set_option maxRecDepth 100000 in
theorem implBrokenClaims_any (n : Int) (a : Option Addr) (len cap : Nat) (xs : List VClaim) (a' : Option Addr) (len' cap' : Nat) (hs : List Int) (w : World) (h : IsClaimS w a len cap xs) (h' : IsInts w a' len' cap' hs) :
    Calls Try.prog 18 #[.int .i64 n, .slice a len cap, .slice a' len' cap'] w (BrokenClaims_Post n xs hs w) := by
  have b2 := bel_al2 w (.cells #[.slice a len cap] 24) (.cells #[.slice a' len' cap'] 25)
  have S := Lib.hid (h.below b2)
  have I := Lib.hid (h'.below b2)
  have L := Lib.hid h.1
  have L' := Lib.hid h'.1
  have hlm := Nat.le_trans h.2.1 h.2.2.1
  have hlm' := Nat.le_trans h'.2.1 h'.2.2.1
  unfold maxLen at hlm hlm'
  have g1 := cell_stay (cell_box w (.slice a len cap) 24 _ rfl) (bel_al1 _ (.cells #[.slice a' len' cap'] 25))
  have g2 := cell_box (w.alloc (.cells #[.slice a len cap] 24)) (.slice a' len' cap') 25 (w.heap.size + 1) (size_al _ _)
  have G1 := Lib.hid g1
  have G2 := Lib.hid g2
  have B0 := Lib.hid b2
  clear h h' b2
  obtain ⟨p, hp⟩ : ∃ p, areCl n xs = p := ⟨_, rfl⟩
  have PP := Lib.hid hp
  clear hp
  go_enter Try.func18, Try.ntmps18
  go_wp2_with fail
  refine (implAreClaims_any n _ _ _ xs _ S.out).mono ?_
  rintro e w1 ⟨rfl, hb⟩
  rw [show AreClaims_0 n xs = p from PP.out]
  have B1 := Lib.hid (Below.then' B0.out hb)
  have S1 := Lib.hid (S.out.below hb)
  have I1 := Lib.hid (I.out.below hb)
  clear g1 g2
  have g1 := cell_stay G1.out hb
  have g2 := cell_stay G2.out hb
  have H1 := Lib.hid g1
  have H2 := Lib.hid g2
  clear hb
  cases p
  · have E0 := Lib.hid (show BrokenClaims_0 n xs hs = [] from by unfold BrokenClaims_0; rw [PP.out]; rfl)
    have E1 := Lib.hid (show BrokenClaims_1 n xs hs = false from by unfold BrokenClaims_1; rw [PP.out]; rfl)
    go_wp2
    go_ret2
    exact ⟨_, by rw [E1.out]; rfl, by rw [E0.out]; exact nil_OwnIntS _ _ _, B1.out⟩
  by_cases hl : (len' : Int) = n
  · have z1 : ((len' : Int) == n) = true := by simp [hl]
    have z2 : ((len' : Int) != n) = false := by simp [hl]
    have D := Lib.hid (show decide ((hs.length : Int) = n) = true from decide_eq_true (by rw [← L'.out]; exact hl))
    clear hl
    obtain ⟨q, hq⟩ : ∃ q, (hs.all fun z => inB z (-200000) 200000) = q := ⟨_, rfl⟩
    have QQ := Lib.hid (show hgtB n hs = q from by unfold hgtB; rw [D.out, hq]; simp)
    have QA := Lib.hid hq
    clear hq
    go_wp2_with fail
    refine (areHeights_any _ _ _ hs _ I1.out).mono ?_
    rintro e w' ⟨rfl, rfl⟩
    rw [QA.out]
    cases q
    · have E0 := Lib.hid (show BrokenClaims_0 n xs hs = [] from by unfold BrokenClaims_0; rw [PP.out, QQ.out]; rfl)
      have E1 := Lib.hid (show BrokenClaims_1 n xs hs = false from by unfold BrokenClaims_1; rw [PP.out, QQ.out]; rfl)
      go_wp2
      go_ret2
      exact ⟨_, by rw [E1.out]; rfl, by rw [E0.out]; exact nil_OwnIntS _ _ _, B1.out⟩
    have E0 := Lib.hid (show BrokenClaims_0 n xs hs = numsTo (brokenI hs xs) len from by unfold BrokenClaims_0; rw [PP.out, QQ.out, L.out, broken_nums]; rfl)
    have E1 := Lib.hid (show BrokenClaims_1 n xs hs = true from by unfold BrokenClaims_1; rw [PP.out, QQ.out]; rfl)
    have h24 := (areCl_iff.1 PP.out).2.2
    have hl24 : len ≤ 1000000 := by have := L.out; omega
    clear h24 z1 z2
    go_wp2_with fail
    refine (numbersWhere_any len hl24 57 #[.pointer (some ⟨w.heap.size, 0, none⟩), .pointer (some ⟨w.heap.size + 1, 0, none⟩)] (brokenI hs xs) _ (enters_fn' Try.func57 (by kernel_rfl) (by kernel_rfl)) (fun W i hi hW => by
      have h1 := brokenAt_any w.heap.size (w.heap.size + 1) a len cap xs a' len' cap' hs i n W (cell_stay H1.out hW) (cell_stay H2.out hW) (S1.out.below hW) (I1.out.below hW) PP.out QQ.out (by have := L.out; omega)
      simpa using h1)).mono ?_
    rintro e w3 ⟨v, rfl, hown, hb⟩
    have B3 := Lib.hid (Below.then' B1.out hb)
    have O := Lib.hid (show OwnIntS w.heap.size w3.heap.size w3 v (numsTo (brokenI hs xs) len) from OwnIn.of_row (ownsRow_base hown B1.out.size) (Nat.le_refl _) (Nat.le_refl _))
    clear hown hb g1 g2
    go_wp2
    go_ret2
    exact ⟨_, by rw [E1.out]; rfl, by rw [E0.out]; exact O.out, B3.out⟩
  · have z1 : ((len' : Int) == n) = false := by simp [hl]
    have z2 : ((len' : Int) != n) = true := by simp [hl]
    have D := Lib.hid (show decide ((hs.length : Int) = n) = false from decide_eq_false (by rw [← L'.out]; exact hl))
    have QQ := Lib.hid (show hgtB n hs = false from by unfold hgtB; rw [D.out]; simp)
    have E0 := Lib.hid (show BrokenClaims_0 n xs hs = [] from by unfold BrokenClaims_0; rw [PP.out, QQ.out]; rfl)
    have E1 := Lib.hid (show BrokenClaims_1 n xs hs = false from by unfold BrokenClaims_1; rw [PP.out, QQ.out]; rfl)
    clear hl
    go_wp2
    go_ret2
    exact ⟨_, by rw [E1.out]; rfl, by rw [E0.out]; exact nil_OwnIntS _ _ _, B1.out⟩
set_option maxHeartbeats 6400000 in
set_option maxRecDepth 100000 in
theorem implDoHeightsFit_any (n : Int) (a : Option Addr) (len cap : Nat) (xs : List VClaim) (a' : Option Addr) (len' cap' : Nat) (hs : List Int) (w : World) (h : IsClaimS w a len cap xs) (h' : IsInts w a' len' cap' hs) :
    Calls Try.prog 16 #[.int .i64 n, .slice a len cap, .slice a' len' cap'] w (DoHeightsFit_Post n xs hs w) := by
  have S := Lib.hid h
  have I := Lib.hid h'
  have hm := h'.2.2.1
  have hcl := h'.2.1
  unfold maxLen at hm
  obtain rfl := h'.1
  clear h h'
  obtain ⟨q, hq⟩ : ∃ q, BrokenClaims_1 n xs hs = q := ⟨_, rfl⟩
  have QQ := Lib.hid hq
  have D1 := Lib.hid (show DoHeightsFit_1 n xs hs = q from hq)
  clear hq
  go_enter Try.func16, Try.ntmps16
  go_wp2_with fail
  refine (implBrokenClaims_any n _ _ _ xs _ _ _ hs _ S.out I.out).mono ?_
  rintro e w1 ⟨v, rfl, hown, hb⟩
  rw [QQ.out]
  obtain ⟨va, vc, rfl⟩ := hown.form
  have B1 := Lib.hid hb
  have I1 := Lib.hid (I.out.below hb)
  clear hown hb
  cases q
  · have D0 := Lib.hid (show DoHeightsFit_0 n xs hs = false from by
      have := QQ.out
      unfold BrokenClaims_1 at this
      unfold DoHeightsFit_0; rw [this]; rfl)
    go_wp2
    go_ret2
    exact ⟨by rw [D0.out, D1.out]; rfl, B1.out⟩
  have hh : areCl n xs = true ∧ hgtB n hs = true := by
    have := QQ.out
    unfold BrokenClaims_1 at this
    simpa using this
  have hp0 : 0 < hs.length := by
    have hn := (areCl_iff.1 hh.1).2.1
    have h2 := hh.2
    unfold hgtB at h2
    simp only [Bool.and_eq_true, decide_eq_true_eq] at h2
    omega
  obtain ⟨y, hy⟩ : ∃ y, hs[0]? = some y := ⟨hs[0], List.getElem?_eq_getElem _⟩
  obtain ⟨b, o, rfl, _, hat⟩ := I1.out.at hp0
  have c0 := hat 0 y hy
  have Y := Lib.hid (show atI hs 0 = y from atI_some (k := 0) hy)
  have hi1 : (0 : Int) < (hs.length : Int) := by omega
  have E0 := Lib.hid (show DoHeightsFit_0 n xs hs = (decide (y = 0) && decide ((BrokenClaims_0 n xs hs).length = 0)) from by
    unfold DoHeightsFit_0 BrokenClaims_0; rw [hh.1, hh.2, Y.out]; rfl)
  clear hat hy hh
  simp only [Nat.add_zero] at c0
  obtain ⟨m, hm2⟩ : ∃ m, (BrokenClaims_0 n xs hs).length = m := ⟨_, rfl⟩
  rw [hm2] at E0 ⊢
  have EM := Lib.hid (show decide (m = 0) = ((m : Int) == 0) from by rw [Bool.eq_iff_iff]; simp)
  clear hm2
  by_cases hz : y = 0
  · have z1 : (y == 0) = true := by simp [hz]
    have Z := Lib.hid (decide_eq_true hz)
    clear hz
    go_wp2
    go_ret2
    exact ⟨by rw [E0.out, D1.out, Z.out, EM.out]; rfl, B1.out⟩
  · have z1 : (y == 0) = false := by simp [hz]
    have Z := Lib.hid (decide_eq_false hz)
    clear hz
    go_wp2
    go_ret2
    exact ⟨by rw [E0.out, D1.out, Z.out]; rfl, B1.out⟩
end Go.Proofs.Ytobpgoiaimlonaa
