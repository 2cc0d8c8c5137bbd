/- Texts in one: Own, IntO, ClaimO, Cl, Sw, PutL, LawsR, Tie. -/
import Derived.Test.YtobpgoiaimlonaaM1
import Derived.Test.YtobpgoiaimlonaaM2
import Derived.Laws.MakeOwn
import Derived.Deep.RegionWith
namespace Go.Proofs.Ytobpgoiaimlonaa
open Go.RowKit

/-- From w to w' no block outside lo .. hi has turned. -/
structure Turned (lo hi : Nat) (w w' : World) : Prop where
  os : w'.os = w.os
  tape : w'.tape = w.tape
  output : w'.output = w.output
  size : w.heap.size ≤ w'.heap.size
  block : ∀ k, k < w.heap.size → (k < lo ∨ hi ≤ k) → w'.heap[k]? = w.heap[k]?
theorem Turned.refl (lo hi : Nat) (w : World) : Turned lo hi w w := ⟨rfl, rfl, rfl, Nat.le_refl _, fun _ _ _ => rfl⟩
theorem Turned.trans {lo hi : Nat} {a b c : World} (h : Turned lo hi a b) (k : Turned lo hi b c) : Turned lo hi a c :=
  ⟨k.os.trans h.os, k.tape.trans h.tape, k.output.trans h.output, Nat.le_trans h.size k.size, fun j hj ho => (k.block j (Nat.lt_of_lt_of_le hj h.size) ho).trans (h.block j hj ho)⟩
theorem Turned.of_below {lo hi : Nat} {w w' : World} (h : Below w.heap.size w w') : Turned lo hi w w' := ⟨h.os, h.tape, h.output, h.size, fun k hk _ => h.block k hk⟩
theorem Turned.of_grown {lo hi : Nat} {w w' : World} {row : Option Nat} (h : w.grownBy w' row) (hr : ∀ k, row = some k → lo ≤ k ∧ k < hi) : Turned lo hi w w' :=
  ⟨h.os, h.tape, h.output, h.size, fun k hk ho => h.block k hk (fun e => by have := hr k e.symm; omega)⟩
theorem Turned.below {lo hi B : Nat} {w0 w w' : World} (b : Below B w0 w) (h : Turned lo hi w w') (hB : B ≤ lo) (hw : B ≤ w.heap.size) : Below B w0 w' :=
  b.trans ⟨h.os, h.tape, h.output, h.size, fun k hk => h.block k (by omega) (.inl (by omega))⟩
theorem Turned.mono {lo hi lo' hi' : Nat} {w w' : World} (h : Turned lo hi w w') (h1 : lo' ≤ lo) (h2 : hi ≤ hi') : Turned lo' hi' w w' := ⟨h.os, h.tape, h.output, h.size, fun k hk ho => h.block k hk (by omega)⟩
theorem Turned.setCell {lo hi : Nat} {a w : World} (h : Turned lo hi a w) {p : Addr} (h1 : lo ≤ p.block) (h2 : p.block < hi) (u : Value) : Turned lo hi a (w.setCell p u) :=
  h.trans ⟨rfl, rfl, rfl, by simp [World.setCell], fun k _ ho => Below.heap_setCell _ _ _ _ (by omega)⟩
theorem Turned.alloc {lo hi : Nat} {a w : World} (h : Turned lo hi a w) (o : Obj) : Turned lo hi a (w.alloc o) := h.trans (Turned.of_below (bel_al1 w o))

/-- A row of the call's own that lies in lo .. hi. -/
def OwnIn (lo hi : Nat) (w : World) (e : TypeId) (size : Nat) (v : Value) (n : Nat) (L : List Value) : Prop := w.ownsRow lo e size v n L ∧ ∀ b, v.ownBlock = some b → b < hi
section
variable {lo hi : Nat} {w w' : World} {e : TypeId} {size n : Nat} {v : Value} {L : List Value}
theorem OwnIn.row (h : OwnIn lo hi w e size v n L) : w.ownsRow lo e size v n L := h.1
theorem OwnIn.lt (h : OwnIn lo hi w e size v n L) {b : Nat} (hb : v.ownBlock = some b) : lo ≤ b ∧ b < hi ∧ b < w.heap.size := ⟨(h.1.lt b hb).1, h.2 b hb, (h.1.lt b hb).2⟩
theorem OwnIn.keep (h : OwnIn lo hi w e size v n L) (hk : ∀ b, v.ownBlock = some b → w'.heap[b]? = w.heap[b]?) : OwnIn lo hi w' e size v n L := by
  refine ⟨⟨h.1.1, ?_⟩, h.2⟩
  rcases h.1.2 with h0 | ⟨g, cap, cur, rfl, hg, hh, r⟩
  · exact .inl h0
  · exact .inr ⟨g, cap, cur, rfl, hg, (hk g rfl).trans hh, r⟩
theorem OwnIn.turned (h : OwnIn lo hi w e size v n L) {lo' hi' : Nat} (t : Turned lo' hi' w w') (hd : hi ≤ lo' ∨ hi' ≤ lo) : OwnIn lo hi w' e size v n L :=
  h.keep fun b hb => t.block b (h.lt hb).2.2 (by have := h.lt hb; omega)
theorem OwnIn.below (h : OwnIn lo hi w e size v n L) (hb : Below w.heap.size w w') : OwnIn lo hi w' e size v n L := h.keep fun b hv => hb.block b (h.lt hv).2.2
theorem OwnIn.mono (h : OwnIn lo hi w e size v n L) {lo' hi' : Nat} (h1 : lo' ≤ lo) (h2 : hi ≤ hi') : OwnIn lo' hi' w e size v n L :=
  ⟨ownsRow_base h.1 h1, fun b hb => Nat.lt_of_lt_of_le (h.2 b hb) h2⟩
theorem OwnIn.of_row {base : Nat} (h : w.ownsRow base e size v n L) (hl : lo ≤ base) (hh : w.heap.size ≤ hi) : OwnIn lo hi w e size v n L :=
  ⟨ownsRow_base h hl, fun b hb => Nat.lt_of_lt_of_le (h.lt b hb).2 hh⟩
end
theorem isInts_ownIn {lo hi : Nat} {w : World} {v : Value} {xs : List Int} (h : OwnIn lo hi w 3 1 v xs.length (intCells xs)) : ∃ a cap, v = .slice a xs.length cap ∧ IsInts w a xs.length cap xs := by
  obtain ⟨a, c, e, hi, _⟩ := isInts_own h.1
  exact ⟨a, c, e, hi⟩

/-- A slice's three parts. -/
structure Hd where
  a : Option Addr
  n : Nat
  c : Nat
def Hd.v (h : Hd) : Value := .slice h.a h.n h.c
def Hd.blk (h : Hd) : Option Nat := h.v.ownBlock
/-- A row of integers of the call's own, by its parts. -/
def HInts (lo hi : Nat) (w : World) (h : Hd) (zs : List Int) : Prop := OwnIn lo hi w 3 1 (.slice h.a h.n h.c) zs.length (intCells zs)
theorem HInts.is {lo hi : Nat} {w : World} {h : Hd} {zs : List Int} (H : HInts lo hi w h zs) : IsInts w h.a h.n h.c zs ∧ h.n = zs.length := by
  obtain ⟨a, c, e, hi⟩ := isInts_ownIn H
  simp only [Value.slice.injEq] at e
  obtain ⟨rfl, e2, rfl⟩ := e
  rw [e2]; exact ⟨hi, rfl⟩
end Go.Proofs.Ytobpgoiaimlonaa
namespace Go.Proofs.Ytobpgoiaimlonaa
open Go.RowKit

def OwnIntS (lo hi : Nat) (w : World) (v : Value) (xs : List Int) : Prop := OwnIn lo hi w 3 1 v xs.length (intCells xs)
section
variable {lo hi lo' hi' : Nat} {w w' : World} {v : Value} {xs : List Int}
theorem OwnIntS.form (h : OwnIntS lo hi w v xs) : ∃ a c, v = .slice a xs.length c := by
  obtain ⟨a, c, e, _⟩ := isInts_ownIn h
  exact ⟨a, c, e⟩
theorem OwnIntS.is {a : Option Addr} {n c : Nat} (h : OwnIntS lo hi w (.slice a n c) xs) : IsInts w a n c xs := by
  obtain ⟨a', c', e, hi⟩ := isInts_ownIn h
  simp only [Value.slice.injEq] at e
  obtain ⟨rfl, rfl, rfl⟩ := e
  exact hi
theorem OwnIntS.below (h : OwnIntS lo hi w v xs) (hb : Below w.heap.size w w') : OwnIntS lo hi w' v xs := OwnIn.below h hb
theorem OwnIntS.turned (h : OwnIntS lo hi w v xs) (t : Turned lo' hi' w w') (hd : hi ≤ lo' ∨ hi' ≤ lo) : OwnIntS lo hi w' v xs := OwnIn.turned h t hd
theorem OwnIntS.mono (h : OwnIntS lo hi w v xs) (h1 : lo' ≤ lo) (h2 : hi ≤ hi') : OwnIntS lo' hi' w v xs := OwnIn.mono h h1 h2
theorem nil_OwnIntS (lo hi : Nat) (w : World) : OwnIntS lo hi w (.slice none 0 0) [] := ⟨⟨by simp [intCells], .inl ⟨rfl, rfl⟩⟩, fun b h => by cases h⟩
end
def condInt (xs : List Int) : Prop := xs.length ≤ 1048576
def cntInt (xs : List Int) : Nat := xs.length
def mkInt (k : Nat) (xs : List Int) : List Int := marksI k xs.length
theorem cntInt_cond {xs : List Int} (h : condInt xs) : cntInt xs ≤ 10000000 := Nat.le_trans h (by decide)
/-- A row of the call's own, by its parts, and the world below as it was. -/
def HPost (xs : List Int) (w : World) (e : Ending) (w' : World) : Prop := ∃ h : Hd, e = .returned (.slice h.a h.n h.c) ∧ HInts w.heap.size w'.heap.size w' h xs ∧ Below w.heap.size w w'
set_option maxHeartbeats 3200000 in
set_option maxRecDepth 100000 in
theorem toIntS_h (a : Option Addr) (len cap : Nat) (xs : List Int) (w : World) (h : IsInts w a len cap xs) (hsz : xs.length ≤ 1048576) :
    Calls Try.prog 38 #[.slice a len cap] w (HPost xs w) := by
  obtain rfl := h.1
  obtain ⟨i0, hi, hz0, hz1, hz2⟩ := info_parts infoInt
  have S := Lib.hid h
  clear h
  go_enter Try.func38, Try.ntmps38
  go_wp2_with (refine wpList_make_full _ rfl _ _ 25 rfl w.heap.size 3 i0 (.int .i64 0) 1 Try.underlying25 hi hz0 hz1 .i64 .i64 _ _ xs.length rfl rfl rfl rfl (by rw [hz2]; omega) (by unfold maxLen; omega) (Nat.le_refl _) ?_; intro w1 hown hgrow)
  have hb1 : Below w.heap.size w w1 := (Below.refl _ _).grown hgrow (Nat.le_refl _) (fun k e => by cases e)
  have hg1 := (hown.lt w.heap.size rfl).2
  have H1 := Lib.hid hown
  clear hown hgrow
  go_loopw [4] (fun i wr => ∃ (k : Nat) (D : List Value), k ≤ xs.length ∧ D.length = xs.length - k ∧ i = .int .i64 k ∧ Below w.heap.size w wr ∧ wr.ownsRow w.heap.size 3 1 (.slice (some ⟨w.heap.size, 0, none⟩) xs.length xs.length) xs.length (intCells (xs.take k) ++ D)) (fun i _ => xs.length - (intOf i).toNat)
  case atStart => exact ⟨0, (madeCells (Value.int .i64 0).cells (xs.length * 1)).toList, Nat.zero_le _, by have := H1.out.1; omega, rfl, hb1, by simpa [intCells] using H1.out⟩
  case round =>
    obtain ⟨k, D, hk, hD, rfl, hbel, hown⟩ := hrel
    have O := Lib.hid hown
    have B := Lib.hid hbel
    by_cases hlt : k < xs.length
    · obtain ⟨z, hz⟩ : ∃ z, xs[k]? = some z := ⟨xs[k]'hlt, List.getElem?_eq_getElem _⟩
      obtain ⟨b, o, rfl, hb, hat⟩ := (S.out.below hbel).at (by omega)
      have c0 := hat k z hz
      have Z := Lib.hid hz
      have HD := Lib.hid hD
      have hm := S.out.2.2.1
      unfold maxLen at hm
      have f0 := O.out.frozenAt k
      obtain ⟨u0, d0⟩ := own_cell O.out k (by rw [List.length_append, intCells_len, List.length_take]; omega)
      clear hbel hown hz hat hD
      go_wp2
      go_roundw
      case rel =>
        have h5 := O.out.stored k (.int .i64 z)
        refine ⟨k + 1, D.tail, by omega, by rw [List.length_tail, HD.out]; omega, by go_num, B.out.grown h5.2 B.out.size (fun j e => by cases e; exact Nat.le_refl _), ?_⟩
        have hl : (intCells (xs.take k)).length = k := by rw [intCells_len, List.length_take]; omega
        have h6 := h5.1
        obtain ⟨d, D', rfl⟩ : ∃ d D', D = d :: D' := by
          cases D with
          | nil => have := HD.out; simp at this; omega
          | cons d D' => exact ⟨d, D', rfl⟩
        rw [List.set_append_right _ _ (by omega), hl, Nat.sub_self, List.set_cons_zero] at h6
        rw [List.take_add_one, Z.out, show (some z).toList = [z] from rfl, intCells_snoc, List.append_assoc]
        exact h6
      case measure => simp [intOf]; omega
    · obtain rfl : k = xs.length := by omega
      have hD0 : D = [] := List.length_eq_zero_iff.1 (by omega)
      subst hD0
      clear hown hbel hD
      have hm := S.out.2.2.1
      unfold maxLen at hm
      go_wp2
      go_ret
      refine ⟨⟨some ⟨w.heap.size, 0, none⟩, xs.length, xs.length⟩, rfl, ?_, B.out⟩
      have h := O.out
      rw [List.append_nil, List.take_of_length_le (Nat.le_refl _)] at h
      exact OwnIn.of_row h (Nat.le_refl _) (Nat.le_refl _)
/-- What one row's marks leave. -/
def IntSMarked (lo hi : Nat) (v : Value) (xs : List Int) (k : Nat) (w : World) (e : Ending) (w' : World) : Prop := e = .returned (.int .i64 ((k + cntInt xs : Nat) : Int)) ∧ OwnIntS lo hi w' v (mkInt k xs) ∧ Turned lo hi w w'
theorem markIntS_o (lo hi : Nat) (v : Value) (xs : List Int) (k : Nat) (w : World) (h : OwnIntS lo hi w v xs) (hk : k + cntInt xs ≤ 100000000) :
    Calls Try.prog 43 #[v, .int .i64 (k : Int)] w (IntSMarked lo hi v xs k w) :=
  (markIntS_any lo v xs.length k (intCells xs) w h.1 (by unfold cntInt at hk; omega) (by unfold cntInt at hk; omega)).mono fun e w' ⟨h1, h2, h3⟩ =>
    ⟨h1, ⟨by unfold mkInt; rw [marksI_len]; exact h2, h.2⟩, Turned.of_grown h3 fun b hb => ⟨(h.lt hb).1, (h.lt hb).2.1⟩⟩
theorem heldIntS_o (a : Option Addr) (n c : Nat) (xs : List Int) (k : Nat) (w : World) (h : IsInts w a n c (mkInt k xs)) (hk : k + cntInt xs ≤ 100000000) :
    Calls Try.prog 44 #[.slice a n c, .int .i64 (k : Int)] w fun e w' => e = .returned (.int .i64 ((k + cntInt xs : Nat) : Int)) ∧ Below w.heap.size w w' := by
  have e : n = xs.length := by rw [h.1]; unfold mkInt; rw [marksI_len]
  subst e
  exact (heldIntS_any a xs.length c k w h (by unfold cntInt at hk; omega) (by unfold cntInt at hk; omega)).mono fun e w' ⟨h1, h2⟩ => ⟨h1, h2 ▸ Below.refl _ _⟩
end Go.Proofs.Ytobpgoiaimlonaa
namespace Go.Proofs.Ytobpgoiaimlonaa
open Go.RowKit
def OwnClaimS (lo hi : Nat) (w : World) (v : Value) (xs : List VClaim) : Prop := OwnIn lo hi w 38 4 v xs.length (cellsClaim xs)
section
variable {lo hi lo' hi' : Nat} {w w' : World} {v : Value} {xs : List VClaim}
theorem OwnClaimS.form (h : OwnClaimS lo hi w v xs) : ∃ a c, v = .slice a xs.length c := by
  obtain ⟨a, c, e, _⟩ := isClaimS_own h.1
  exact ⟨a, c, e⟩
theorem OwnClaimS.is {a : Option Addr} {n c : Nat} (h : OwnClaimS lo hi w (.slice a n c) xs) : IsClaimS w a n c xs := by
  obtain ⟨a', c', e, hi, _⟩ := isClaimS_own h.1
  simp only [Value.slice.injEq] at e
  obtain ⟨rfl, rfl, rfl⟩ := e
  exact hi
theorem OwnClaimS.below (h : OwnClaimS lo hi w v xs) (hb : Below w.heap.size w w') : OwnClaimS lo hi w' v xs := OwnIn.below h hb
theorem OwnClaimS.turned (h : OwnClaimS lo hi w v xs) (t : Turned lo' hi' w w') (hd : hi ≤ lo' ∨ hi' ≤ lo) : OwnClaimS lo hi w' v xs := OwnIn.turned h t hd
theorem OwnClaimS.mono (h : OwnClaimS lo hi w v xs) (h1 : lo' ≤ lo) (h2 : hi ≤ hi') : OwnClaimS lo' hi' w v xs := OwnIn.mono h h1 h2
theorem nil_OwnClaimS (lo hi : Nat) (w : World) : OwnClaimS lo hi w (.slice none 0 0) [] := ⟨⟨by simp [cellsClaim], .inl ⟨rfl, rfl⟩⟩, fun b h => by cases h⟩
end
def condClaim (xs : List VClaim) : Prop := xs.length ≤ 1048576
def cntClaim (xs : List VClaim) : Nat := xs.length * 4
def mkClaim (k : Nat) (xs : List VClaim) : List VClaim := marksClaim k xs.length
theorem cntClaim_cond {xs : List VClaim} (h : condClaim xs) : cntClaim xs ≤ 4194304 := by unfold condClaim at h; unfold cntClaim; omega
def ClaimOPost (xs : List VClaim) (w : World) (e : Ending) (w' : World) : Prop := ∃ v, e = .returned v ∧ OwnClaimS w.heap.size w'.heap.size w' v xs ∧ Below w.heap.size w w'
theorem szClaimS_o (a : Option Addr) (len cap : Nat) (xs : List VClaim) (left : Int) (w : World) (h : IsClaimS w a len cap xs) (h0 : 0 ≤ left) (h1 : left ≤ 1048576) :
    Calls Try.prog 31 #[.slice a len cap, .int .i64 left] w fun e w' => ∃ z : Int, e = .returned (.int .i64 z) ∧ z ≤ left ∧ (0 ≤ z → condClaim xs) ∧ Below w.heap.size w w' :=
  (szClaimS_any a len cap xs left w h h0 h1).mono fun e w' ⟨z, h2, h3, h4, h5⟩ => ⟨z, h2, h3, fun hz => by have := h4 hz; have := h.1; unfold condClaim; omega, h5⟩
theorem toClaimS_o (a : Option Addr) (len cap : Nat) (xs : List VClaim) (w : World) (h : IsClaimS w a len cap xs) (hsz : condClaim xs) :
    Calls Try.prog 33 #[.slice a len cap] w (ClaimOPost xs w) :=
  (toClaimS_any a len cap xs w h (by have := h.1; unfold condClaim at hsz; omega)).mono fun e w' ⟨v, h1, h2, h3⟩ => ⟨v, h1, OwnIn.of_row h2 (Nat.le_refl _) (Nat.le_refl _), h3⟩
def ClaimSMarked (lo hi : Nat) (v : Value) (xs : List VClaim) (k : Nat) (w : World) (e : Ending) (w' : World) : Prop := e = .returned (.int .i64 ((k + cntClaim xs : Nat) : Int)) ∧ OwnClaimS lo hi w' v (mkClaim k xs) ∧ Turned lo hi w w'
theorem markClaimS_o (lo hi : Nat) (v : Value) (xs : List VClaim) (k : Nat) (w : World) (h : OwnClaimS lo hi w v xs) (hk : 1 ≤ k ∧ k ≤ 1000000 ∧ cntClaim xs ≤ 4194304) :
    Calls Try.prog 42 #[v, .int .i64 (k : Int)] w (ClaimSMarked lo hi v xs k w) :=
  (markClaimS_any lo v xs.length k (cellsClaim xs) w h.1 (by omega) (by omega) (by unfold cntClaim at hk; omega)).mono fun e w' ⟨h1, h2, h3⟩ =>
    ⟨h1, ⟨by unfold mkClaim; rw [marksClaim_len]; exact h2, h.2⟩, Turned.of_grown h3 fun b hb => ⟨(h.lt hb).1, (h.lt hb).2.1⟩⟩
end Go.Proofs.Ytobpgoiaimlonaa
namespace Go.Proofs.Ytobpgoiaimlonaa
open Go.RowKit

/-- Is a claim valid for n marks? -/
def clB (n : Int) (x : VClaim) : Bool := decide (0 ≤ x.Low) && (decide (x.Low < n) && (decide (0 ≤ x.High) && (decide (x.High < n) && (!(x.Low == x.High) && (inB x.Most (-9999) 9999 && inB x.Least (-9999) x.Most)))))
theorem clB_iff {n : Int} {x : VClaim} : clB n x = true ↔ 0 ≤ x.Low ∧ x.Low < n ∧ 0 ≤ x.High ∧ x.High < n ∧ ¬ x.Low = x.High ∧ (-9999 ≤ x.Most ∧ x.Most ≤ 9999) ∧ (-9999 ≤ x.Least ∧ x.Least ≤ x.Most) := by
  simp [clB, inB]
def areCl (n : Int) (xs : List VClaim) : Bool := xs.all (clB n) && (inB n 1 10 && decide (xs.length ≤ 24))
theorem areCl_iff {n : Int} {xs : List VClaim} : areCl n xs = true ↔ (∀ x ∈ xs, clB n x = true) ∧ (1 ≤ n ∧ n ≤ 10) ∧ xs.length ≤ 24 := by
  simp [areCl, inB]
/-- Are the numbers heights for n marks? -/
def hgtB (n : Int) (hs : List Int) : Bool := hs.all (fun h => inB h (-200000) 200000) && decide ((hs.length : Int) = n)
def atI (hs : List Int) (k : Int) : Int := hs.getD k.toNat 0
theorem atI_some {hs : List Int} {k : Nat} {a : Int} (h : hs[k]? = some a) : atI hs (k : Int) = a := by unfold atI; rw [List.getD_eq_getElem?_getD, Int.toNat_natCast, h]; rfl
def holdsB (hs : List Int) (x : VClaim) : Bool := inB (atI hs x.High - atI hs x.Low) x.Least x.Most
/-- The places below k of the claims that do not hold. -/
def brokenTo (hs : List Int) (xs : List VClaim) : Nat → List Int
  | 0 => []
  | k + 1 => brokenTo hs xs k ++ (match xs[k]? with | some x => if holdsB hs x = true then [] else [(k : Int)] | none => [])
def broken (hs : List Int) (xs : List VClaim) : List Int := brokenTo hs xs xs.length
theorem brokenTo_succ {hs : List Int} {xs : List VClaim} {k : Nat} {x : VClaim} (hx : xs[k]? = some x) : brokenTo hs xs (k + 1) = brokenTo hs xs k ++ (if holdsB hs x = true then [] else [(k : Int)]) := by rw [brokenTo, hx]
theorem brokenTo_len (hs : List Int) (xs : List VClaim) : ∀ k, (brokenTo hs xs k).length ≤ k := by
  intro k
  induction k with
  | zero => simp [brokenTo]
  | succ k ih =>
    rw [brokenTo, List.length_append]
    cases xs[k]? with
    | none => simp; omega
    | some x => simp only []; split <;> simp <;> omega
def AreClaims_0 (n : Int) (xs : List VClaim) : Bool := areCl n xs
def DoHeightsFit_1 (n : Int) (xs : List VClaim) (hs : List Int) : Bool := areCl n xs && hgtB n hs
def DoHeightsFit_0 (n : Int) (xs : List VClaim) (hs : List Int) : Bool := (areCl n xs && hgtB n hs) && (decide (atI hs 0 = 0) && decide ((broken hs xs).length = 0))
def BrokenClaims_1 (n : Int) (xs : List VClaim) (hs : List Int) : Bool := areCl n xs && hgtB n hs
def BrokenClaims_0 (n : Int) (xs : List VClaim) (hs : List Int) : List Int := if (areCl n xs && hgtB n hs) = true then broken hs xs else []
/-- The edges of claims, in the order in which the model relaxes them. -/
def clE (xs : List VClaim) : List Edge := xs.flatMap fun x => [(x.Low.toNat, x.High.toNat, x.Most), (x.High.toNat, x.Low.toNat, -x.Least)]
def reachL (n : Nat) (xs : List VClaim) (k : Nat) : List Int × Bool := reachN n (clE xs) k
def soundB (n : Nat) (xs : List VClaim) : Bool := soundN n (clE xs)
def AreSoundClaims_1 (n : Int) (xs : List VClaim) : Bool := areCl n xs
def AreSoundClaims_0 (n : Int) (xs : List VClaim) : Bool := areCl n xs && soundB n.toNat xs
/-! Contours. -/
def ctB (a b s : Int) : Bool := inB a (-200000) 200000 && (inB b (-200000) 200000 && inB s 1 1000)
def ContoursBetween_0 (a b s : Int) : Int := if ctB a b s = true then (max a b) / s - (min a b) / s else 0
def ContoursBetween_1 (a b s : Int) : Bool := ctB a b s
def claimOf (l h c s : Int) : VClaim := ⟨l, h, max 0 ((c - 1) * s + 1), (c + 1) * s - 1⟩
def coB (l h c s : Int) : Bool := (inB c 0 9 && inB s 1 1000) && clB 10 (claimOf l h c s)
def ClaimOfContours_0 (l h c s : Int) : VClaim := if coB l h c s = true then claimOf l h c s else ⟨0, 0, 0, 0⟩
def ClaimOfContours_1 (l h c s : Int) : Bool := coB l h c s
end Go.Proofs.Ytobpgoiaimlonaa
namespace Go.Proofs.Ytobpgoiaimlonaa
open Go.RowKit
theorem el_at {α : Type} {xs : List α} {len k : Nat} (hl : Hid (len = xs.length)) (hk : k < len) : ∃ s, xs[k]? = some s := ⟨xs[k]'(by have := hl.out; omega), List.getElem?_eq_getElem _⟩
theorem all_more {P : Nat → Prop} {k : Nat} (h : ∀ j, j < k → P j) (h1 : P k) : ∀ j, j < k + 1 → P j := by
  intro j hj
  by_cases e : j = k
  · subst e; exact h1
  · exact h j (by omega)
theorem up_ways {α : Type} {ok : α → Bool} {id : α → Int} {xs : List α} {k : Nat} {s : α} (hs : xs[k]? = some s) :
    (ok s = false ∧ upStep ok id xs k = false) ∨ (ok s = true ∧ k = 0 ∧ upStep ok id xs k = true) ∨ (ok s = true ∧ ∃ j p, k = j + 1 ∧ xs[j]? = some p ∧ ((¬ id s ≤ id p ∧ upStep ok id xs k = true) ∨ (id s ≤ id p ∧ upStep ok id xs k = false))) := by
  match k, hs with
  | 0, hs =>
    rw [upStep_zero hs]
    cases h : ok s
    · exact .inl ⟨rfl, rfl⟩
    · exact .inr (.inl ⟨rfl, rfl, rfl⟩)
  | j + 1, hs =>
    have hl := (List.getElem?_eq_some_iff.1 hs).1
    have hp : xs[j]? = some xs[j] := List.getElem?_eq_getElem (by omega)
    rw [upStep_succ hp hs]
    cases h : ok s
    · exact .inl ⟨rfl, rfl⟩
    · refine .inr (.inr ⟨rfl, j, xs[j], rfl, hp, ?_⟩)
      by_cases h2 : id s ≤ id xs[j]
      · exact .inr ⟨h2, by simp; omega⟩
      · exact .inl ⟨h2, by simp; omega⟩
/-- A call of a function value enters the function. -/
theorem enters_fn {P : Program} {K : FuncId} {fn : Func} (hf : P.funcs[K]? = some fn) (h1 : (fn.name == "runtime.NumGoroutine") = false) (h2 : fn.body.isNone = false) : ∀ args W, (callFunc K args).run P W = .ok (.enter K args) W := by
  intro args W
  have h1' : ¬ fn.name = "runtime.NumGoroutine" := by simpa using h1
  have h2' : ¬ fn.body = none := by intro h; rw [h] at h2; cases h2
  simp [callFunc, go_sem, hf, h1', h2']
theorem cell_box (w : World) (v : Value) (t : TypeId) (B : Nat) (hB : w.heap.size = B) : (w.alloc (.cells #[v] t)).cell? ⟨B, 0, none⟩ = some v := by
  subst hB
  simp [World.cell?_alloc_new]
theorem cell_stay {w w' : World} {b o : Nat} {v : Value} (h : w.cell? ⟨b, o, none⟩ = some v) (hb : Below w.heap.size w w') : w'.cell? ⟨b, o, none⟩ = some v := (hb.cell (p := ⟨b, o, none⟩) (World.lt_of_cell h)).trans h
end Go.Proofs.Ytobpgoiaimlonaa
namespace Go.Proofs.Ytobpgoiaimlonaa
open Go.RowKit

/-- A number put to its place, once. -/
def putN (n : Int) : List Int → List Int
  | [] => [n]
  | z :: l => if z < n then z :: putN n l else if z = n then z :: l else n :: z :: l
theorem putN_len (n : Int) (zs : List Int) : (putN n zs).length ≤ zs.length + 1 := by
  induction zs with
  | nil => simp [putN]
  | cons z l ih => unfold putN; split <;> (try split) <;> simp_all
theorem mem_putN {n x : Int} {zs : List Int} : x ∈ putN n zs ↔ x = n ∨ x ∈ zs := by
  induction zs with
  | nil => simp [putN]
  | cons z l ih =>
      unfold putN
      by_cases h1 : z < n
      · rw [if_pos h1, List.mem_cons, List.mem_cons, ih]
        constructor
        · rintro (h | h | h)
          · exact .inr (.inl h)
          · exact .inl h
          · exact .inr (.inr h)
        · rintro (h | h | h)
          · exact .inr (.inl h)
          · exact .inl h
          · exact .inr (.inr h)
      · rw [if_neg h1]
        by_cases h2 : z = n
        · rw [if_pos h2]
          subst h2
          simp
        · rw [if_neg h2]
          simp
/-- What stands before all keeps it so. -/
theorem putN_rises {n : Int} {zs : List Int} (h : List.Pairwise (· < ·) zs) : List.Pairwise (· < ·) (putN n zs) := by
  induction zs with
  | nil => simp [putN]
  | cons z l ih =>
      have hp := List.pairwise_cons.1 h
      unfold putN
      by_cases h1 : z < n
      · rw [if_pos h1]
        refine List.pairwise_cons.2 ⟨fun y hy => ?_, ih hp.2⟩
        rcases mem_putN.1 hy with rfl | hy
        · exact h1
        · exact hp.1 y hy
      · rw [if_neg h1]
        by_cases h2 : z = n
        · rw [if_pos h2]; exact h
        · rw [if_neg h2]
          refine List.pairwise_cons.2 ⟨fun y hy => ?_, h⟩
          rcases List.mem_cons.1 hy with rfl | hy
          · omega
          · have := hp.1 y hy; omega
/-- Where the loop ends. -/
theorem putN_at {n : Int} : ∀ {zs : List Int} {k : Nat}, (∀ (j : Nat) z, j < k → zs[j]? = some z → z < n) → (∀ z, zs[k]? = some z → ¬ z < n) → k ≤ zs.length → putN n zs = if zs[k]? = some n then zs else zs.take k ++ n :: zs.drop k := by
  intro zs
  induction zs with
  | nil => intro k _ _ hk; simp at hk; subst hk; simp [putN]
  | cons z l ih =>
      intro k h1 h2 hk
      cases k with
      | zero =>
          have := h2 z rfl
          unfold putN
          rw [if_neg this]
          by_cases e : z = n
          · rw [if_pos e, if_pos (by simp [e])]
          · rw [if_neg e, if_neg (by simpa using e)]
            rfl
      | succ k =>
          have hz := h1 0 z (by omega) rfl
          unfold putN
          rw [if_pos hz, ih (k := k) (fun j y hj hy => h1 (j + 1) y (by omega) (by simpa using hy)) (fun y hy => h2 y (by simpa using hy)) (by simp at hk; omega)]
          rw [List.getElem?_cons_succ]
          by_cases e : l[k]? = some n
          · rw [if_pos e, if_pos e]
          · rw [if_neg e, if_neg e]
            rfl
theorem one_intsN (zs : List Int) : ∀ u ∈ intCells zs, u.oneCell' = true := by
  intro u hu
  obtain ⟨z, _, rfl⟩ := List.mem_map.1 hu
  rfl
theorem srcIntsN {w : World} {a : Option Addr} {len cap : Nat} {zs : List Int} (h : IsInts w a len cap zs) : SrcAt w a len 1 (intCells zs) := by
  refine ⟨by rw [intCells_len, h.1, Nat.mul_one], ?_⟩
  rcases h.2.2.2 with h0 | ⟨b, o, rfl, hb, hat⟩
  · exact .inl h0
  · refine .inr ⟨_, rfl, fun j u hj => ?_⟩
    rw [add_plain]
    unfold intCells at hj
    rw [List.getElem?_map] at hj
    cases hz : zs[j]? with
    | none => rw [hz] at hj; cases hj
    | some z => rw [hz] at hj; cases hj; exact hat j z hz
theorem srcInts_takeN {w : World} {a : Option Addr} {len cap k : Nat} {zs : List Int} (h : IsInts w a len cap zs) (hk : k ≤ len) : SrcAt w a k 1 (intCells (zs.take k)) := by
  refine srcIntsN (cap := cap) ⟨by rw [List.length_take, h.1.symm, Nat.min_eq_left hk], by have := h.2.1; omega, h.2.2.1, ?_⟩
  rcases h.2.2.2 with h0 | ⟨b, o, rfl, hb, hat⟩
  · exact .inl (by omega)
  · refine .inr ⟨b, o, rfl, hb, fun j s hs => hat j s ?_⟩
    rw [List.getElem?_take] at hs
    split at hs
    · exact hs
    · cases hs
theorem srcInts_dropN {w : World} {b o : Nat} {len cap k : Nat} {zs : List Int} (h : IsInts w (some ⟨b, o, none⟩) len cap zs) (hk : k ≤ len) : SrcAt w (some ⟨b, o + k, none⟩) (len - k) 1 (intCells (zs.drop k)) := by
  refine srcIntsN (cap := cap - k) ⟨by rw [List.length_drop, h.1.symm], by have := h.2.1; omega, by have := h.2.2.1; omega, ?_⟩
  rcases h.2.2.2 with h0 | ⟨b', o', e, hb, hat⟩
  · exact .inl (by omega)
  · cases e
    refine .inr ⟨b, _, rfl, hb, fun j s hs => ?_⟩
    rw [List.getElem?_drop] at hs
    have := hat (k + j) s hs
    rwa [← Nat.add_assoc] at this
theorem made_intsN (w : World) (base : Nat) (h : base ≤ w.heap.size) : (w.alloc (.cells #[] 3)).ownsRow base 3 1 (.slice (some ⟨w.heap.size, 0, none⟩) 0 0) 0 [] :=
  World.ownsRow_made (base := base) (e := 3) (size := 1) w #[] 0 h (Nat.zero_le _) rfl
theorem ints_putN {w : World} {base g n c : Nat} {xs : List Int} (h : w.ownsRow base 3 1 (.slice (some ⟨g, 0, none⟩) n c) n (intCells xs)) (hn : n = xs.length) : IsInts w (some ⟨g, 0, none⟩) n c xs := by
  subst hn
  obtain ⟨a, c', e, h', _⟩ := isInts_own h
  cases e
  exact h'
theorem step_append_optN {P : Program} {w : World} {ops : Array Oper} {o : Oper} {a : Act} {K : Act → World → Prop} {Q : Exit → Act → World → Prop} {E : Prop} (hgd : o.guard = none) (s x : Operand) (t : TypeId)
    (ho : o.op = .call { callee := .builtin .append, args := #[s, x], argTypes := #[t, t] })
    (base : Nat) (e : TypeId) (i : TypeInfo) (z : Value) (size bytes : Nat) (ht : P.underlying t = some (.slice e)) (hi : P.info? e = some i) (hz : i.zero = some z)
    (hsize : i.size = size) (hby : i.bytes = bytes) (hzs : z.cells.size = size) (hsz : 0 < size)
    (v : Value) (hs : a.eval s = v) (n : Nat) (xs : List Value) (hown : w.ownsRow base e size v n xs)
    (u : Value) (hx : a.eval x = u) (ad : Option Addr) (m c : Nat) (news : List Value) (hu : u = .slice ad m c) (hsrc : SrcAt w ad m size news) (h1 : ∀ u ∈ news, u.oneCell' = true)
    (h63 : n + m ≤ maxLen) (hbytes : (n + m) * bytes ≤ 140737488355328) (hbase : base ≤ w.heap.size)
    (h : ∀ v' w', w'.ownsRow base e size v' (n + m) (xs ++ news) → w.grownBy w' v.ownBlock → K (a.put o.dst v') w') :
    if Region.wanted o (yielded ops a.tmps) = true then Oper.wp P o a w K Q else E := by
  subst hu
  exact step_append_list hgd s x t ho base e i z size bytes ht hi hz hsize hby hzs hsz v n xs hs hown ad m c news hx hsrc h1 h63 hbytes hbase h
def ReadsIntsN (zs : List Int) (w : World) (e : Ending) (w' : World) : Prop := ∃ h : Hd, e = .returned (.slice h.a h.n h.c) ∧ IsInts w' h.a h.n h.c zs ∧ Below w.heap.size w w'
theorem belDAN {w W : World} (h : Below w.heap.size w W) (o : Obj) : Below w.heap.size w (W.drew.alloc o) := Below.then' (bel_drew' h) (bel_al1 _ o)
theorem belDAAN {w W : World} (h : Below w.heap.size w W) (o o' : Obj) : Below w.heap.size w ((W.drew.alloc o).alloc o') := Below.then' (belDAN h o) (bel_al1 _ o')
theorem madeLaterN (W : World) (o : Obj) : ((W.drew.alloc o).alloc (.cells #[] 3)).ownsRow W.heap.size 3 1 (.slice (some ⟨W.heap.size + 1, 0, none⟩) 0 0) 0 [] := by
  have h := made_intsN (W.drew.alloc o) W.heap.size (by rw [size_al]; exact Nat.le_succ _)
  rw [size_al] at h
  exact h
theorem lit_LN {W w5 : World} {n : Int} {o : Obj} (hg : ((W.drew.alloc (.cells #[.int .i64 n] 3)).alloc o).grownBy w5 (some (W.heap.size + 1))) : w5.cell? ⟨W.heap.size, 0, none⟩ = some (.int .i64 n) := by
  have h1 : (W.drew.alloc (.cells #[.int .i64 n] 3)).cell? ⟨W.heap.size, 0, none⟩ = some (.int .i64 n) := cell_box W.drew (.int .i64 n) 3 _ rfl
  have hl := World.lt_of_cell h1
  have h2 := ((bel_al1 (W.drew.alloc (.cells #[.int .i64 n] 3)) o).cell (p := ⟨W.heap.size, 0, none⟩) hl).trans h1
  exact (World.cell?_of_block (a := ⟨W.heap.size, 0, none⟩) (hg.block W.heap.size (World.lt_of_cell h2) (fun e => by have := Option.some.inj e; omega))).trans h2
theorem lit_MN {W w5 : World} {n : Int} {o : Obj} (hg : ((W.drew.alloc o).alloc (.cells #[.int .i64 n] 3)).grownBy w5 (some W.heap.size)) : w5.cell? ⟨W.heap.size + 1, 0, none⟩ = some (.int .i64 n) := by
  have h1 : ((W.drew.alloc o).alloc (.cells #[.int .i64 n] 3)).cell? ⟨W.heap.size + 1, 0, none⟩ = some (.int .i64 n) := cell_box (W.drew.alloc o) (.int .i64 n) 3 _ (size_al _ _)
  exact (World.cell?_of_block (a := ⟨W.heap.size + 1, 0, none⟩) (hg.block (W.heap.size + 1) (World.lt_of_cell h1) (fun e => by have := Option.some.inj e; omega))).trans h1
theorem src_oneN {w : World} {b : Nat} {n : Int} (h : w.cell? ⟨b, 0, none⟩ = some (.int .i64 n)) : SrcAt w (some ⟨b, 0, none⟩) 1 1 [.int .i64 n] :=
  ⟨rfl, .inr ⟨_, rfl, fun j u hj => by
    match j, hj with
    | 0, hj => simp at hj; subst hj; simpa [Addr.add] using h
    | j + 1, hj => simp at hj⟩⟩
theorem one_intN (n : Int) : ∀ u ∈ [Value.int .i64 n], u.oneCell' = true := by intro u hu; simp at hu; subst hu; rfl
/-- The row that three appends make. -/
theorem three_intsN (zs : List Int) (k : Nat) (n : Int) : [] ++ intCells (zs.take k) ++ [Value.int .i64 n] ++ intCells (zs.drop k) = intCells (zs.take k ++ n :: zs.drop k) := by simp [intCells]
set_option maxHeartbeats 25600000 in
set_option maxRecDepth 100000 in
theorem l1PutN_any (a : Option Addr) (len cap : Nat) (zs : List Int) (n : Int) (w : World) (h : IsInts w a len cap zs) (hx : zs.length ≤ 1000) :
    Calls Try.prog 87 #[.slice a len cap, .int .i64 n] w (ReadsIntsN (putN n zs) w) := by
  obtain ⟨i1, hi1, hy0, hy1, hy2⟩ := info_parts infoInt
  have hm := h.2.2.1
  have hcl := h.2.1
  unfold maxLen at hm
  have S := Lib.hid h
  have L := Lib.hid h.1
  have hl10 : len ≤ 1000 := by have := h.1; omega
  clear h
  go_enter Try.func87, Try.ntmps87
  go_wp2
  go_loop [5] (fun i => ∃ k : Nat, k ≤ len ∧ i = .int .i64 k ∧ ∀ (j : Nat) z, j < k → zs[j]? = some z → z < n) (fun i => len - (intOf i).toNat)
  case atStart => exact ⟨0, Nat.zero_le _, rfl, fun _ _ h => by omega⟩
  case round =>
    obtain ⟨k, hk, rfl, hall⟩ := hrel
    have A := Lib.hid hall
    clear hall
    have k0 : (0 : Int) ≤ (k : Int) := by omega
    have kl : (k : Int) ≤ (len : Int) := by omega
    have kc : k ≤ cap := by omega
    have kc2 : (k : Int) ≤ (cap : Int) := by omega
    by_cases hlt : k < len
    · obtain ⟨z, hz⟩ := el_at L hlt
      obtain ⟨b, o, rfl, hb, hat⟩ := S.out.at (by omega)
      have c0 := hat k z hz
      have AT := Lib.hid hat
      have Z := Lib.hid hz
      have hi1' : (k : Int) < (len : Int) := by omega
      clear hz hat
      by_cases hzn : z < n
      · go_wp2
        go_round
        case rel => exact ⟨k + 1, by omega, by go_num, fun j y hj hy => by
          by_cases e : j = k
          · subst e; rw [Z.out] at hy; cases hy; exact hzn
          · exact A.out j y (by omega) hy⟩
        case measure => simp [intOf]; omega
      · have PA := Lib.hid (putN_at A.out (fun y hy => by rw [Z.out] at hy; cases hy; exact hzn) (by have := L.out; omega) : putN n zs = if zs[k]? = some n then zs else zs.take k ++ n :: zs.drop k)
        by_cases hze : z = n
        · have E := Lib.hid (show putN n zs = zs from by rw [PA.out, Z.out, if_pos (by rw [hze])])
          have hb1 : (z == n) = true := by simpa using hze
          subst hze
          go_wp2
          go_ret
          exact ⟨⟨_, len, cap⟩, rfl, by rw [E.out]; exact S.out, Below.refl _ _⟩
        · have E := Lib.hid (show putN n zs = zs.take k ++ n :: zs.drop k from by rw [PA.out, Z.out, if_neg (fun e => hze (Option.some.inj e))])
          have hb1 : (z == n) = false := by simpa using hze
          have hcj : ¬ cap = k := by omega
          clear PA
          go_wp2_with fail
          refine wp_world (fun W => Below w.heap.size w W) (by first | exact Below.refl _ _ | exact bel_drawn _ _) ?_
          intro W hbw
          have BW := Lib.hid hbw
          have hW0 := hbw.size
          clear hbw c0
          have hj' : k ≤ len := hk
          go_region_law (first
            | (refine step_append_some (by rfl) (.tmp 33) (.tmp 36) 25 (by rfl) W.heap.size 3 i1 (.int .i64 0) 1 8 Try.underlying25 hi1 hy0 hy1 hy2 (by rfl) (by decide) _ (by simp [Act.eval]; rfl) _ _ 0 [] (by rfl) (by first | exact made_intsN W.drew W.heap.size (Nat.le_refl _) | exact (made_intsN W.drew W.heap.size (Nat.le_refl _)).alloc (.cells #[.int .i64 n] 3) | exact madeLaterN W (.cells #[.int .i64 n] 3)) _ (by simp [Act.eval]; rfl) _ k _ (intCells (zs.take k)) (by rfl) (by first | exact srcInts_takeN (S.out.below (belDAN BW.out _)) hj' | exact srcInts_takeN (S.out.below (belDAAN BW.out _ _)) hj') (one_intsN _) (by unfold maxLen; omega) (by omega) (by first | exact (belDAN (Below.refl W.heap.size W) _).size | exact (belDAAN (Below.refl W.heap.size W) _ _).size) ?_; intro g5 c5 w5 hown5 hgrow5 hn5 hc5 hg5 hl5; rw [Nat.zero_add, List.nil_append] at hown5; have O5 := Lib.hid hown5; have hs5 : W.heap.size ≤ w5.heap.size := by omega
               have B5 := Lib.hid (show Below w.heap.size w w5 from by first | exact (belDAN BW.out _).grown hgrow5 (belDAN BW.out _).size (fun j e => by cases e; omega) | exact (belDAAN BW.out _ _).grown hgrow5 (belDAAN BW.out _ _).size (fun j e => by cases e; omega))
               try have N5 := Lib.hid (lit_LN hgrow5)
               try have N5 := Lib.hid (lit_MN hgrow5)
               clear hown5 hgrow5)
            | (refine step_append_some (by rfl) (.tmp 37) (.tmp 39) 25 (by rfl) W.heap.size 3 i1 (.int .i64 0) 1 8 Try.underlying25 hi1 hy0 hy1 hy2 (by rfl) (by decide) _ (by simp [Act.eval]; rfl) g5 c5 k (intCells (zs.take k)) (by rfl) (by first | exact O5.out | exact O5.out.alloc _) _ (by simp [Act.eval]; rfl) _ 1 1 [.int .i64 n] (by rfl) (by first | exact src_oneN N5.out | exact src_oneN (cell_box w5 (.int .i64 n) 3 _ rfl)) (one_intN n) (by unfold maxLen; omega) (by omega) (by first | exact hs5 | exact Nat.le_trans hs5 (bel_al1 w5 _).size) ?_; intro g6 c6 w6 hown6 hgrow6 hn6 hc6 hg6 hl6; have O6 := Lib.hid hown6; have hs6 : W.heap.size ≤ w6.heap.size := by omega
               have B6 := Lib.hid (show Below w.heap.size w w6 from by first | exact B5.out.grown hgrow6 B5.out.size (fun j e => by cases e; omega) | exact (Below.then' B5.out (bel_al1 _ _)).grown hgrow6 (Below.then' B5.out (bel_al1 _ _)).size (fun j e => by cases e; omega))
               clear hown6 hgrow6)
            | (refine step_append_some (by rfl) (.tmp 40) (.tmp 43) 25 (by rfl) W.heap.size 3 i1 (.int .i64 0) 1 8 Try.underlying25 hi1 hy0 hy1 hy2 (by rfl) (by decide) _ (by simp [Act.eval]; rfl) g6 c6 (k + 1) (intCells (zs.take k) ++ [.int .i64 n]) (by rfl) O6.out _ (by simp [Act.eval]; rfl) _ (len - k) _ (intCells (zs.drop k)) (by rfl) (srcInts_dropN (S.out.below B6.out) hj') (one_intsN _) (by unfold maxLen; omega) (by omega) hs6 ?_; intro g7 c7 w7 hown7 hgrow7 hn7 hc7 hg7 hl7
               have O7 := Lib.hid hown7
               have B7 := Lib.hid (show Below w.heap.size w w7 from B6.out.grown hgrow7 B6.out.size (fun j e => by cases e; omega))
               clear hown7 hgrow7))
          all_goals go_wp2
          all_goals go_ret
          all_goals exact ⟨⟨_, _, _⟩, rfl, by
            rw [E.out]
            have h := O7.out
            rw [show intCells (zs.take k) ++ [Value.int .i64 n] ++ intCells (zs.drop k) = intCells (zs.take k ++ n :: zs.drop k) from by simp [intCells]] at h
            exact ints_putN h (by have := L.out; show k + 1 + (len - k) = _; rw [List.length_append, List.length_take, List.length_cons, List.length_drop]; omega), B7.out⟩
    · obtain rfl : k = len := by omega
      have E := Lib.hid (show putN n zs = zs ++ [n] from by
        have hz : zs.length ≤ k := by have := L.out; omega
        have h := putN_at (zs := zs) (k := k) A.out (fun y hy => by rw [List.getElem?_eq_none hz] at hy; cases hy) (by have := L.out; omega)
        rw [h, if_neg (by rw [List.getElem?_eq_none hz]; simp), List.take_of_length_le hz, List.drop_of_length_le hz])
      have TK := Lib.hid (show zs.take k = zs from List.take_of_length_le (by have := L.out; omega))
      have hj' : k ≤ k := Nat.le_refl _
      go_wp2_with fail
      refine wp_world (fun W => Below w.heap.size w W) (by first | exact Below.refl _ _ | exact bel_drawn _ _) ?_
      intro W hbw
      have BW := Lib.hid hbw
      have hW0 := hbw.size
      clear hbw
      by_cases hcj : cap = k
      all_goals rcases a with _ | p
      all_goals
          go_region_law (first
            | (refine step_append_optN (by rfl) (.tmp 33) (.tmp 36) 25 (by rfl) W.heap.size 3 i1 (.int .i64 0) 1 8 Try.underlying25 hi1 hy0 hy1 hy2 (by rfl) (by decide) _ (by simp [Act.eval] <;> rfl) 0 [] (by first | exact made_intsN W.drew W.heap.size (Nat.le_refl _) | exact (made_intsN W.drew W.heap.size (Nat.le_refl _)).alloc (.cells #[.int .i64 n] 3) | exact madeLaterN W (.cells #[.int .i64 n] 3)) _ (by simp [Act.eval] <;> rfl) _ k _ (intCells (zs.take k)) (by rfl) (by first | exact srcInts_takeN (S.out.below (belDAN BW.out _)) hj' | exact srcInts_takeN (S.out.below (belDAAN BW.out _ _)) hj') (one_intsN _) (by unfold maxLen; omega) (by omega) (by first | exact (belDAN (Below.refl W.heap.size W) _).size | exact (belDAAN (Below.refl W.heap.size W) _ _).size) ?_; intro v5 w5 hown5 hgrow5; rw [Nat.zero_add, List.nil_append] at hown5; have O5 := Lib.hid hown5
               have B5W := Lib.hid (show Below W.heap.size W w5 from by first | exact (belDAN (Below.refl _ W) _).grown hgrow5 (belDAN (Below.refl _ W) _).size (fun j e => by have := own_is e; omega) | exact (belDAAN (Below.refl _ W) _ _).grown hgrow5 (belDAAN (Below.refl _ W) _ _).size (fun j e => by have := own_is e; omega))
               have hs5 : W.heap.size ≤ w5.heap.size := B5W.out.size
               have B5 := Lib.hid (Below.then' BW.out B5W.out)
               try have N5 := Lib.hid (lit_LN hgrow5)
               try have N5 := Lib.hid (lit_MN hgrow5)
               clear hown5 hgrow5)
            | (refine step_append_optN (by rfl) (.tmp 37) (.tmp 39) 25 (by rfl) W.heap.size 3 i1 (.int .i64 0) 1 8 Try.underlying25 hi1 hy0 hy1 hy2 (by rfl) (by decide) _ (by simp [Act.eval] <;> rfl) k (intCells (zs.take k)) (by first | exact O5.out | exact O5.out.alloc _) _ (by simp [Act.eval] <;> rfl) _ 1 1 [.int .i64 n] (by rfl) (by first | exact src_oneN N5.out | exact src_oneN (cell_box w5 (.int .i64 n) 3 _ rfl)) (one_intN n) (by unfold maxLen; omega) (by omega) (by first | exact hs5 | exact Nat.le_trans hs5 (bel_al1 w5 _).size) ?_; intro v6 w6 hown6 hgrow6; have O6 := Lib.hid hown6
               have B6 := Lib.hid (show Below w.heap.size w w6 from by first | exact B5.out.grown hgrow6 B5.out.size (fun j e => Nat.le_trans hW0 (O5.out.lt j e).1) | exact (Below.then' B5.out (bel_al1 _ _)).grown hgrow6 (Below.then' B5.out (bel_al1 _ _)).size (fun j e => Nat.le_trans hW0 (O5.out.lt j e).1))
               have hs6 : W.heap.size ≤ w6.heap.size := by first | exact (B5W.out.grown hgrow6 B5W.out.size (fun j e => (O5.out.lt j e).1)).size | exact ((Below.then' B5W.out (bel_al1 _ _)).grown hgrow6 (Below.then' B5W.out (bel_al1 _ _)).size (fun j e => (O5.out.lt j e).1)).size
               clear hown6 hgrow6)
            | (refine step_append_optN (by rfl) (.tmp 40) (.tmp 43) 25 (by rfl) W.heap.size 3 i1 (.int .i64 0) 1 8 Try.underlying25 hi1 hy0 hy1 hy2 (by rfl) (by decide) _ (by simp [Act.eval] <;> rfl) (k + 1) (intCells (zs.take k) ++ [.int .i64 n]) O6.out _ (by simp [Act.eval] <;> rfl) _ 0 _ [] (by rfl) ⟨rfl, .inl rfl⟩ (by simp) (by unfold maxLen; omega) (by omega) hs6 ?_; intro v7 w7 hown7 hgrow7
               have O7 := Lib.hid hown7
               have B7 := Lib.hid (show Below w.heap.size w w7 from B6.out.grown hgrow7 B6.out.size (fun j e => Nat.le_trans hW0 (O6.out.lt j e).1))
               clear hown7 hgrow7))
          all_goals go_wp2
          all_goals go_ret
          all_goals
            have h := O7.out
            rw [TK.out, show intCells zs ++ [Value.int .i64 n] ++ [] = intCells (zs ++ [n]) from by simp [intCells], show k + 1 + 0 = (zs ++ [n]).length from by have := L.out; rw [List.length_append, List.length_singleton]; omega] at h
            obtain ⟨a', c', e', h', _⟩ := isInts_own h
            rw [e']
            exact ⟨⟨a', (zs ++ [n]).length, c'⟩, rfl, by rw [E.out]; exact h', B7.out⟩
end Go.Proofs.Ytobpgoiaimlonaa
namespace Go.Proofs.Ytobpgoiaimlonaa
open Go.RowKit

theorem bnn (q : Bool) : (q != q) = false := by cases q <;> rfl
def hasB (x : Int) (xs : List Int) : Bool := xs.any fun y => y == x
theorem hasB_iff {x : Int} {xs : List Int} : hasB x xs = true ↔ x ∈ xs := by
  unfold hasB; rw [List.any_eq_true]
  constructor
  · rintro ⟨y, h1, h2⟩; rw [← (by simpa using h2 : y = x)]; exact h1
  · intro h; exact ⟨x, h, by simp⟩
end Go.Proofs.Ytobpgoiaimlonaa
namespace Go.Proofs.Ytobpgoiaimlonaa
open Go.RowKit

/-- One claim's marks, taken in where one of them is. -/
def tieStep (out : List Int) (p : Int × Int) : List Int := if hasB p.1 out = true ∨ hasB p.2 out = true then putN p.2 (putN p.1 out) else out
def tieRound (P : List (Int × Int)) (out : List Int) : List Int := P.foldl tieStep out
def tieRounds (P : List (Int × Int)) : Nat → List Int → List Int
  | 0, o => o
  | r + 1, o => tieRound P (tieRounds P r o)
def tiedL (n : Nat) (P : List (Int × Int)) (k : Int) : List Int := tieRounds P n [k]
/-- A chain of claims, each in either direction. -/
inductive ConnP (P : List (Int × Int)) (k : Int) : Int → Prop
  | nil : ConnP P k k
  | fwd {a b : Int} : ConnP P k a → (a, b) ∈ P → ConnP P k b
  | bwd {a b : Int} : ConnP P k b → (a, b) ∈ P → ConnP P k a
theorem ConnP.trans {P : List (Int × Int)} {k u v : Int} (h1 : ConnP P k u) (h2 : ConnP P u v) : ConnP P k v := by
  induction h2 with
  | nil => exact h1
  | fwd _ he ih => exact ih.fwd he
  | bwd _ he ih => exact ih.bwd he
theorem ConnP.symm {P : List (Int × Int)} {k v : Int} (h : ConnP P k v) : ConnP P v k := by
  induction h with
  | nil => exact .nil
  | fwd _ he ih => exact (ConnP.nil.bwd he).trans ih
  | bwd _ he ih => exact (ConnP.nil.fwd he).trans ih
/-- No claim leads out. -/
def ClosedP (P : List (Int × Int)) (out : List Int) : Prop := ∀ a b, (a, b) ∈ P → (a ∈ out ↔ b ∈ out)
theorem closed_conn {P : List (Int × Int)} {out : List Int} (h : ClosedP P out) {k v : Int} (hk : k ∈ out) (hc : ConnP P k v) : v ∈ out := by
  induction hc with
  | nil => exact hk
  | fwd _ he ih => exact (h _ _ he).1 ih
  | bwd _ he ih => exact (h _ _ he).2 ih
theorem putN_self {n : Int} {zs : List Int} (h : List.Pairwise (· < ·) zs) (hm : n ∈ zs) : putN n zs = zs := by
  induction zs with
  | nil => simp at hm
  | cons z l ih =>
    have hp := List.pairwise_cons.1 h
    unfold putN
    by_cases h1 : z < n
    · rw [if_pos h1]
      rw [List.mem_cons] at hm
      rcases hm with rfl | hm
      · omega
      · rw [ih hp.2 hm]
    · rw [if_neg h1]
      rw [List.mem_cons] at hm
      rcases hm with rfl | hm
      · rw [if_pos rfl]
      · have := hp.1 n hm; omega
theorem mem_tieStep {out : List Int} {p : Int × Int} {x : Int} : x ∈ tieStep out p ↔ x ∈ out ∨ ((p.1 ∈ out ∨ p.2 ∈ out) ∧ (x = p.1 ∨ x = p.2)) := by
  unfold tieStep
  simp only [hasB_iff]
  by_cases h : p.1 ∈ out ∨ p.2 ∈ out
  · rw [if_pos h, mem_putN, mem_putN]
    constructor
    · rintro (h1 | h1 | h1)
      · exact .inr ⟨h, .inr h1⟩
      · exact .inr ⟨h, .inl h1⟩
      · exact .inl h1
    · rintro (h1 | ⟨_, h1 | h1⟩)
      · exact .inr (.inr h1)
      · exact .inr (.inl h1)
      · exact .inl h1
  · rw [if_neg h]
    constructor
    · exact .inl
    · rintro (h1 | h1)
      · exact h1
      · exact absurd h1.1 h
theorem tieStep_rises {out : List Int} {p : Int × Int} (h : List.Pairwise (· < ·) out) : List.Pairwise (· < ·) (tieStep out p) := by
  unfold tieStep
  split
  · exact putN_rises (putN_rises h)
  · exact h
theorem tieFold {P : List (Int × Int)} {k : Int} : ∀ (L : List (Int × Int)), (∀ p ∈ L, p ∈ P) → ∀ out, List.Pairwise (· < ·) out → (∀ v ∈ out, ConnP P k v) →
    List.Pairwise (· < ·) (L.foldl tieStep out) ∧ (∀ v ∈ L.foldl tieStep out, ConnP P k v) ∧ ∀ v ∈ out, v ∈ L.foldl tieStep out := by
  intro L
  induction L with
  | nil => intro _ out h1 h2; exact ⟨h1, h2, fun v hv => hv⟩
  | cons p L ih =>
    intro hs out h1 h2
    have hp := hs p (by simp)
    obtain ⟨g1, g2, g3⟩ := ih (fun q hq => hs q (List.mem_cons_of_mem _ hq)) (tieStep out p) (tieStep_rises h1) (fun v hv => by
      rcases mem_tieStep.1 hv with h | ⟨h | h, rfl | rfl⟩
      · exact h2 v h
      · exact h2 _ h
      · exact (h2 _ h).fwd hp
      · exact (h2 _ h).bwd hp
      · exact h2 _ h)
    exact ⟨g1, g2, fun v hv => g3 v (mem_tieStep.2 (.inl hv))⟩
theorem tieFold_taken : ∀ (L : List (Int × Int)) (out : List Int) (a b : Int), (a, b) ∈ L → (a ∈ out ∨ b ∈ out) → a ∈ L.foldl tieStep out ∧ b ∈ L.foldl tieStep out := by
  intro L
  have keep : ∀ (L : List (Int × Int)) (out : List Int) (v : Int), v ∈ out → v ∈ L.foldl tieStep out := by
    intro L
    induction L with
    | nil => intro out v hv; exact hv
    | cons p L ih => intro out v hv; exact ih _ v (mem_tieStep.2 (.inl hv))
  induction L with
  | nil => intro out a b h; simp at h
  | cons p L ih =>
    intro out a b h hm
    rw [List.mem_cons] at h
    rcases h with rfl | h
    · exact ⟨keep L _ a (mem_tieStep.2 (.inr ⟨hm, .inl rfl⟩)), keep L _ b (mem_tieStep.2 (.inr ⟨hm, .inr rfl⟩))⟩
    · exact ih _ a b h (hm.imp (fun h => mem_tieStep.2 (.inl h)) (fun h => mem_tieStep.2 (.inl h)))
theorem tieFold_same {P : List (Int × Int)} {out : List Int} (hr : List.Pairwise (· < ·) out) (hc : ClosedP P out) : ∀ (L : List (Int × Int)), (∀ p ∈ L, p ∈ P) → L.foldl tieStep out = out := by
  intro L
  induction L with
  | nil => intro _; rfl
  | cons p L ih =>
    intro hs
    obtain ⟨a, b⟩ := p
    have e : tieStep out (a, b) = out := by
      unfold tieStep
      simp only [hasB_iff]
      by_cases h : a ∈ out ∨ b ∈ out
      · have hab := hc a b (hs _ (by simp))
        have ha : a ∈ out := h.elim id hab.2
        rw [if_pos h, putN_self hr ha, putN_self hr (hab.1 ha)]
      · rw [if_neg h]
    rw [List.foldl_cons, e]
    exact ih fun q hq => hs q (List.mem_cons_of_mem _ hq)
/-- Rising lists with the same elements are one. -/
theorem rises_ext : ∀ (xs ys : List Int), List.Pairwise (· < ·) xs → List.Pairwise (· < ·) ys → (∀ v, v ∈ xs ↔ v ∈ ys) → xs = ys := by
  intro xs
  induction xs with
  | nil =>
    intro ys _ _ h
    cases ys with
    | nil => rfl
    | cons y l => have := (h y).2 (by simp); simp at this
  | cons x l ih =>
    intro ys h1 h2 h
    cases ys with
    | nil => have := (h x).1 (by simp); simp at this
    | cons y m =>
      have p1 := List.pairwise_cons.1 h1
      have p2 := List.pairwise_cons.1 h2
      have e : x = y := by
        have a1 := (h x).1 (by simp)
        have a2 := (h y).2 (by simp)
        rw [List.mem_cons] at a1 a2
        rcases a1 with a1 | a1
        · exact a1
        · rcases a2 with a2 | a2
          · exact a2.symm
          · have := p2.1 x a1; have := p1.1 y a2; omega
      subst e
      rw [ih m p1.2 p2.2 fun v => ?_]
      constructor
      · intro hv
        have := (h v).1 (List.mem_cons_of_mem _ hv)
        rw [List.mem_cons] at this
        rcases this with rfl | this
        · have := p1.1 v hv; omega
        · exact this
      · intro hv
        have := (h v).2 (List.mem_cons_of_mem _ hv)
        rw [List.mem_cons] at this
        rcases this with rfl | this
        · have := p2.1 v hv; omega
        · exact this
theorem rises_nodup {xs : List Int} (h : List.Pairwise (· < ·) xs) : xs.Nodup := h.imp fun hab e => by omega
theorem nodup_toNat : ∀ (xs : List Int), xs.Nodup → (∀ v ∈ xs, 0 ≤ v) → (xs.map Int.toNat).Nodup := by
  intro xs
  induction xs with
  | nil => intro _ _; simp
  | cons x l ih =>
    intro h hb
    obtain ⟨h1, h2⟩ := List.nodup_cons.1 h
    rw [List.map_cons, List.nodup_cons]
    refine ⟨fun hm => ?_, ih h2 fun v hv => hb v (List.mem_cons_of_mem _ hv)⟩
    obtain ⟨y, hy, e⟩ := List.mem_map.1 hm
    have b1 := hb x (by simp)
    have b2 := hb y (List.mem_cons_of_mem _ hy)
    have : y = x := by omega
    subst this
    exact h1 hy
theorem nodup_sub_len : ∀ (xs ys : List Int), xs.Nodup → (∀ v ∈ xs, v ∈ ys) → xs.length ≤ ys.length := by
  intro xs
  induction xs with
  | nil => intro ys _ _; simp
  | cons x l ih =>
    intro ys h hs
    obtain ⟨h1, h2⟩ := List.nodup_cons.1 h
    have hx := hs x (by simp)
    have h3 := ih (ys.erase x) h2 fun v hv => by
      have hne : v ≠ x := fun e => h1 (e ▸ hv)
      exact (List.mem_erase_of_ne hne).2 (hs v (List.mem_cons_of_mem _ hv))
    rw [List.length_erase_of_mem hx] at h3
    have : 0 < ys.length := List.length_pos_of_mem hx
    rw [List.length_cons]
    omega
/-- A rising list of numbers below n has at most n. -/
theorem rises_len {n : Nat} {xs : List Int} (h : List.Pairwise (· < ·) xs) (hb : ∀ v ∈ xs, 0 ≤ v ∧ v < (n : Int)) : xs.length ≤ n := by
  have h1 : (xs.map Int.toNat).Nodup := nodup_toNat xs (rises_nodup h) fun v hv => (hb v hv).1
  have := nodup_lt n (xs.map Int.toNat) h1 (fun u hu => by
    obtain ⟨v, hv, rfl⟩ := List.mem_map.1 hu
    have := hb v hv; omega)
  simpa using this
/-- A longer rising list: with all of the one and one more. -/
theorem rises_more {xs ys : List Int} (h1 : List.Pairwise (· < ·) xs) (hs : ∀ v ∈ xs, v ∈ ys) {x : Int} (hx : x ∈ ys) (hn : ¬ x ∈ xs) : xs.length + 1 ≤ ys.length := by
  have h3 : (x :: xs).Nodup := List.nodup_cons.2 ⟨hn, rises_nodup h1⟩
  exact (nodup_sub_len _ _ h3 fun v hv => by
    rw [List.mem_cons] at hv
    rcases hv with rfl | hv
    · exact hx
    · exact hs v hv)
theorem conn_lt {P : List (Int × Int)} {n : Int} (hP : ∀ a b, (a, b) ∈ P → (0 ≤ a ∧ a < n) ∧ 0 ≤ b ∧ b < n) {k v : Int} (hk : 0 ≤ k ∧ k < n) (h : ConnP P k v) : 0 ≤ v ∧ v < n := by
  cases h with
  | nil => exact hk
  | fwd _ he => exact (hP _ _ he).2
  | bwd _ he => exact (hP _ _ he).1
theorem tieRounds_facts {P : List (Int × Int)} {k : Int} : ∀ r, List.Pairwise (· < ·) (tieRounds P r [k]) ∧ (∀ v ∈ tieRounds P r [k], ConnP P k v) ∧ k ∈ tieRounds P r [k] ∧ (ClosedP P (tieRounds P r [k]) ∨ r + 1 ≤ (tieRounds P r [k]).length) := by
  intro r
  induction r with
  | zero => exact ⟨by simp [tieRounds], fun v hv => by simp [tieRounds] at hv; subst hv; exact .nil, by simp [tieRounds], .inr (by simp [tieRounds])⟩
  | succ r ih =>
    obtain ⟨h1, h2, h3, h4⟩ := ih
    obtain ⟨g1, g2, g3⟩ := tieFold (P := P) (k := k) P (fun _ h => h) _ h1 h2
    refine ⟨g1, g2, g3 k h3, ?_⟩
    by_cases hc : ClosedP P (tieRounds P r [k])
    · left
      show ClosedP P (P.foldl tieStep (tieRounds P r [k]))
      rw [tieFold_same h1 hc P (fun _ h => h)]; exact hc
    · right
      rcases h4 with h4 | h4
      · exact absurd h4 hc
      · have : ∃ a b, (a, b) ∈ P ∧ ¬ (a ∈ tieRounds P r [k] ↔ b ∈ tieRounds P r [k]) := Classical.byContradiction fun hn => hc fun a b hab => Classical.byContradiction fun h => hn ⟨a, b, hab, h⟩
        obtain ⟨a, b, hab, hne⟩ := this
        have hor : a ∈ tieRounds P r [k] ∨ b ∈ tieRounds P r [k] := Classical.byContradiction fun h => hne ⟨fun ha => absurd (.inl ha) h, fun hb => absurd (.inr hb) h⟩
        obtain ⟨ta, tb⟩ := tieFold_taken P (tieRounds P r [k]) a b hab hor
        have : (tieRounds P r [k]).length + 1 ≤ (P.foldl tieStep (tieRounds P r [k])).length := by
          by_cases ha : a ∈ tieRounds P r [k]
          · exact rises_more h1 g3 tb fun hb => hne ⟨fun _ => hb, fun _ => ha⟩
          · exact rises_more h1 g3 ta ha
        show r + 1 + 1 ≤ (P.foldl tieStep (tieRounds P r [k])).length
        omega
/-- The tied marks: a rising list of the marks that a chain leads to. -/
theorem tiedL_is {P : List (Int × Int)} {n : Nat} {k : Int} (hP : ∀ a b, (a, b) ∈ P → (0 ≤ a ∧ a < (n : Int)) ∧ 0 ≤ b ∧ b < (n : Int)) (hk : 0 ≤ k ∧ k < (n : Int)) : List.Pairwise (· < ·) (tiedL n P k) ∧ (∀ v, v ∈ tiedL n P k ↔ ConnP P k v) ∧ (tiedL n P k).length ≤ n := by
  obtain ⟨h1, h2, h3, h4⟩ := tieRounds_facts (P := P) (k := k) n
  have hl : (tieRounds P n [k]).length ≤ n := rises_len h1 fun v hv => conn_lt hP hk (h2 v hv)
  have hc : ClosedP P (tieRounds P n [k]) := by
    rcases h4 with h4 | h4
    · exact h4
    · omega
  exact ⟨h1, fun v => ⟨h2 v, closed_conn hc h3⟩, hl⟩
theorem tiedL_unique {P : List (Int × Int)} {n : Nat} {k : Int} (hP : ∀ a b, (a, b) ∈ P → (0 ≤ a ∧ a < (n : Int)) ∧ 0 ≤ b ∧ b < (n : Int)) (hk : 0 ≤ k ∧ k < (n : Int)) {xs : List Int} (hr : List.Pairwise (· < ·) xs) (hm : ∀ v ∈ xs, ConnP P k v) (hkx : k ∈ xs) (hc : ClosedP P xs) : xs = tiedL n P k := by
  obtain ⟨h1, h2, _⟩ := tiedL_is hP hk
  exact rises_ext _ _ hr h1 fun v => ⟨fun hv => (h2 v).2 (hm v hv), fun hv => closed_conn hc hkx ((h2 v).1 hv)⟩
theorem tiedL_same {P : List (Int × Int)} {n : Nat} {k v : Int} (hP : ∀ a b, (a, b) ∈ P → (0 ≤ a ∧ a < (n : Int)) ∧ 0 ≤ b ∧ b < (n : Int)) (hk : 0 ≤ k ∧ k < (n : Int)) (hv : v ∈ tiedL n P k) : tiedL n P v = tiedL n P k := by
  obtain ⟨h1, h2, _⟩ := tiedL_is hP hk
  have hc := (h2 v).1 hv
  obtain ⟨g1, g2, _⟩ := tiedL_is hP (conn_lt hP hk hc)
  exact rises_ext _ _ g1 h1 fun x => by rw [g2, h2]; exact ⟨hc.trans, hc.symm.trans⟩
/-- All marks are tied where so many are. -/
theorem tiedL_all {P : List (Int × Int)} {n : Nat} {k : Int} (hP : ∀ a b, (a, b) ∈ P → (0 ≤ a ∧ a < (n : Int)) ∧ 0 ≤ b ∧ b < (n : Int)) (hk : 0 ≤ k ∧ k < (n : Int)) (hl : (tiedL n P k).length = n) {v : Int} (hv : 0 ≤ v ∧ v < (n : Int)) : ConnP P k v := by
  obtain ⟨h1, h2, _⟩ := tiedL_is hP hk
  refine (h2 v).1 (Classical.byContradiction fun hn => ?_)
  have h3 : (v :: tiedL n P k).Nodup := List.nodup_cons.2 ⟨hn, rises_nodup h1⟩
  have h4 : ((v :: tiedL n P k).map Int.toNat).Nodup := nodup_toNat _ h3 fun x hx => by
    rw [List.mem_cons] at hx
    rcases hx with rfl | hx
    · exact hv.1
    · exact (conn_lt hP hk ((h2 x).1 hx)).1
  have := nodup_lt n _ h4 (fun u hu => by
    obtain ⟨x, hx, rfl⟩ := List.mem_map.1 hu
    rw [List.mem_cons] at hx
    rcases hx with rfl | hx
    · omega
    · have := conn_lt hP hk ((h2 x).1 hx); omega)
  simp at this
  omega
end Go.Proofs.Ytobpgoiaimlonaa
