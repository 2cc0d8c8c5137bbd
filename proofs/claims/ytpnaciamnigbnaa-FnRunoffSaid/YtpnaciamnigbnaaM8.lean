/- Texts in one: Draw0, DrawB, Wdr, Wdr2, Wdr3, Wdr4, Sheet2, Ws. -/
import Derived.Test.YtpnaciamnigbnaaM7
import Derived.Test.YtpnaciamnigbnaaM1
import Derived.Deep.AppendLies
import Derived.Deep.RegionHeld3
import Derived.Deep.RegionLaw
import Derived.Test.YtpnaciamnigbnaaM4
import Derived.Test.YtpnaciamnigbnaaM2
namespace Go.Proofs.Ytpnaciamnigbnaa
open Go.RowKit

/-- The code as the law holds it: some bytes of the world as it came in. -/
def CodeIn (w : World) (a : Option Addr) (len cap : Nat) : Prop :=
  len ≤ cap ∧ cap ≤ maxLen ∧ (len = 0 ∨ ∃ b o, a = some ⟨b, o, none⟩ ∧ b < w.heap.size ∧ ∀ i, i < len → ∃ c : Int, 0 ≤ c ∧ c ≤ 255 ∧ w.cell? ⟨b, o + i, none⟩ = some (.int .u8 c))
theorem u8_wf {n : Int} (h : (Lit.int .u8 n).wf = true) : 0 ≤ n ∧ n ≤ 255 := by
  simp [Lit.wf] at h
  have e0 : IntKind.u8.min = 0 := by decide
  have e1 : IntKind.u8.max = 255 := by decide
  omega
theorem CodeIn.of_row {w : World} {a : Option Addr} {len cap : Nat} {zs : List Int} (h : IsRow .u8 w a len cap zs) : CodeIn w a len cap := by
  rcases h with ⟨rfl, rfl, rfl, rfl⟩ | ⟨x, rfl, h1, h2, h3, h4, h5⟩
  · exact ⟨by omega, by simp, .inl rfl⟩
  · refine ⟨h1, h2, ?_⟩
    by_cases h0 : len = 0
    · exact .inl h0
    obtain ⟨b, o, spot⟩ := x
    have k1 := h4 0 (by omega)
    have hspot : spot = none := by simpa [Addr.add] using World.cell?_spot k1
    subst hspot
    refine .inr ⟨b, o, rfl, ?_, fun i hi => ?_⟩
    · have : w.cell? ⟨b, o, none⟩ ≠ none := by
        have := k1
        simp [Addr.add] at this
        rw [this]; simp
      by_cases hb : b < w.heap.size
      · exact hb
      · exfalso; apply this; simp [World.cell?, Array.getElem?_eq_none (Nat.le_of_not_lt hb)]
    · have hc := h4 i (by omega)
      rw [add_plain] at hc
      have hw := h5 (zs.getD i 0) (by
        have hi' : i < zs.length := by omega
        rw [List.getD_eq_getElem?_getD, List.getElem?_eq_getElem hi']
        exact List.getElem_mem hi')
      obtain ⟨b0, b1⟩ := u8_wf hw
      exact ⟨zs.getD i 0, b0, b1, hc⟩
theorem CodeIn.below {w w' : World} {a : Option Addr} {len cap : Nat} (h : CodeIn w a len cap) (hb : Below w.heap.size w w') : CodeIn w' a len cap := by
  refine ⟨h.1, h.2.1, ?_⟩
  rcases h.2.2 with h0 | ⟨b, o, rfl, h1, h2⟩
  · exact .inl h0
  · refine .inr ⟨b, o, rfl, Nat.lt_of_lt_of_le h1 hb.size, fun i hi => ?_⟩
    obtain ⟨c, c0, c1, hc⟩ := h2 i hi
    exact ⟨c, c0, c1, (hb.cell (p := ⟨b, o + i, none⟩) h1).trans hc⟩
theorem CodeIn.at {w w' : World} {a : Option Addr} {len cap : Nat} (h : CodeIn w a len cap) (hb : Below w.heap.size w w') : CodeAt w' a len cap w.heap.size := by
  refine ⟨h.1, h.2.1, ?_⟩
  rcases (h.below hb).2.2 with h0 | ⟨b, o, rfl, h1, h2⟩
  · exact .inl h0
  · by_cases h0 : len = 0
    · exact .inl h0
    refine .inr ⟨b, o, rfl, h1, ?_, h2⟩
    rcases h.2.2 with h00 | ⟨b', o', e, h1', _⟩
    · omega
    · cases e; omega
theorem bel_alloc (w : World) (o : Obj) : Below w.heap.size w (w.alloc o) := (Below.refl _ _).alloc (Nat.le_refl _) o
theorem lits_of (w : World) (C : Array Value) (T : TypeId) (m n : Nat) (hn : C.size = n) (hC : ∀ v ∈ C.toList, ∃ x : ByteArray, x.size ≤ m ∧ v = .string x) : ∀ i, i < n → ∃ x : ByteArray, x.size ≤ m ∧ (w.alloc (.cells C T)).cell? ⟨w.heap.size, 0 + i, none⟩ = some (.string x) := by
  subst hn
  intro i hi
  obtain ⟨x, hx, e⟩ := hC C[i] (by simp)
  refine ⟨x, hx, ?_⟩
  rw [World.cell?_alloc_new, Nat.zero_add, Array.getElem?_eq_getElem hi, e]
theorem CurAt.alloc {w : World} {bc : Nat} {a : Option Addr} {len cap t : Nat} (h : CurAt w bc a len cap t) (o : Obj) : CurAt (w.alloc o) bc a len cap t := h.heap (Below.heap_alloc w o bc h.lt)
theorem CodeAt.alloc {w : World} {bc : Nat} {a : Option Addr} {len cap : Nat} (h : CodeAt w a len cap bc) (o : Obj) : CodeAt (w.alloc o) a len cap bc := h.grown (grown_below (bel_alloc w o) _)

theorem below_cur {w w0 w' : World} {row : Option Nat} (hb : Below w.heap.size w w0) (hr : row = some w.heap.size) (hg : w0.grownBy w' row) : Below w.heap.size w w' := hb.grown hg hb.size (fun k e => by rw [hr] at e; cases e; exact Nat.le_refl _)
theorem cur_new (w : World) (a : Option Addr) (len cap : Nat) : CurAt (w.alloc (.cells #[.slice a len cap, .int .i64 0, .int .u64 0] 90)) w.heap.size a len cap 0 := ⟨0, 0, Nat.le_refl _, by omega, by omega, by
  show (w.heap.push _)[w.heap.size]? = _
  simp⟩
end Go.Proofs.Ytpnaciamnigbnaa
namespace Go.Proofs.Ytpnaciamnigbnaa
open Go.RowKit

theorem ints_at (w : World) (C : Array Value) (T : TypeId) (lo hi : Int) (n B : Nat) (hB : w.heap.size = B) (hn : C.size = n) (hC : ∀ v ∈ C.toList, ∃ x : Int, lo ≤ x ∧ x ≤ hi ∧ v = .int .i64 x) : ∀ i, i < n → ∃ x : Int, lo ≤ x ∧ x ≤ hi ∧ (w.alloc (.cells C T)).cell? ⟨B, 0 + i, none⟩ = some (.int .i64 x) := by
  subst hn hB
  intro i hi'
  obtain ⟨x, h1, h2, e⟩ := hC C[i] (by simp)
  refine ⟨x, h1, h2, ?_⟩
  rw [World.cell?_alloc_new, Nat.zero_add, Array.getElem?_eq_getElem hi', e]
theorem strs_at (w : World) (C : Array Value) (T : TypeId) (m n B : Nat) (hB : w.heap.size = B) (hn : C.size = n) (hC : ∀ v ∈ C.toList, ∃ x : ByteArray, x.size ≤ m ∧ v = .string x) : ∀ i, i < n → ∃ x : ByteArray, x.size ≤ m ∧ (w.alloc (.cells C T)).cell? ⟨B, 0 + i, none⟩ = some (.string x) := by
  subst hn hB
  intro i hi'
  obtain ⟨x, h1, e⟩ := hC C[i] (by simp)
  refine ⟨x, h1, ?_⟩
  rw [World.cell?_alloc_new, Nat.zero_add, Array.getElem?_eq_getElem hi', e]
theorem CurAt.grown {w w' : World} {bc : Nat} {a : Option Addr} {len cap t : Nat} {row : Option Nat} (h : CurAt w bc a len cap t) (hg : w.grownBy w' row) (hne : some bc ≠ row) : CurAt w' bc a len cap t := h.heap (hg.block bc h.lt hne)
theorem grow_st {w w' : World} {row : Option Nat} (h : w.grownBy w' row) {p : Addr} (hp : w.heap.size ≤ p.block) (v : Value) : w.grownBy (w'.setCell p v) row :=
  ⟨h.os, h.tape, h.output, by rw [World.size_setCell]; exact h.size, fun k hk hr => (heap_setCell_other w' p k v (by omega)).trans (h.block k hk hr)⟩
theorem grow_al {w w' : World} {row : Option Nat} (h : w.grownBy w' row) (o : Obj) : w.grownBy (w'.alloc o) row := grown_trans h (grown_below ((Below.refl _ _).alloc (Nat.le_refl _) o) row)
theorem grown_own0 {w w1 w2 : World} {r row : Option Nat} (h : w.grownBy w1 r) (k : w1.grownBy w2 row) (hr : ∀ j, row = some j → w.heap.size ≤ j) : w.grownBy w2 r :=
  ⟨k.os.trans h.os, k.tape.trans h.tape, k.output.trans h.output, Nat.le_trans h.size k.size, fun j hj hne => (k.block j (Nat.lt_of_lt_of_le hj h.size) (fun e => by have := hr j e.symm; omega)).trans (h.block j hj hne)⟩
theorem pick_anyI (bc : Nat) (a : Option Addr) (len cap t : Nat) (n : Int) (w : World) (hc : CurAt w bc a len cap t) (hd : CodeAt w a len cap bc) (ht : t ≤ 900000) (hn0 : 1 ≤ n) (hn : n ≤ 65536) :
    Calls Try.prog 136 #[.pointer (some ⟨bc, 0, none⟩), .int .i64 n] w (PickPost bc a len cap (t + 2) n w) := by
  obtain ⟨m, rfl⟩ := Int.eq_ofNat_of_zero_le (show 0 ≤ n by omega)
  exact pick_any bc a len cap t m w hc hd ht (by omega) (by omega)
end Go.Proofs.Ytpnaciamnigbnaa
namespace Go.Proofs.Ytpnaciamnigbnaa
open Go.RowKit Go.Deep

theorem RawIntS.snoc2 {lo hi : Nat} {w2 w4 : World} {v : Value} {n g4 cap4 : Nat} {ps : List PIntS} {p : PIntS} (h : RawIntS lo hi w2 v ps) (hn : ps.length = n) (hlo : lo ≤ hi) (hhi : hi ≤ w2.heap.size) (hz : HInts hi w2.heap.size w2 p.h p.x)
    (own : w4.ownsRow lo 38 1 (.slice (some ⟨g4, 0, none⟩) (n + 1) cap4) (n + 1) (cellsIntS ps ++ p.vals)) (hgr : w2.grownBy w4 v.ownBlock) (hg4 : v.ownBlock = some g4 ∨ g4 = w2.heap.size) : RawIntS lo w4.heap.size w4 (.slice (some ⟨g4, 0, none⟩) (n + 1) cap4) (ps ++ [p]) := by
  refine ⟨?_, ?_⟩
  · rw [List.length_append, List.length_singleton, hn, cellsIntS_snoc]
    exact OwnIn.of_row own (Nat.le_refl _) (Nat.le_refl _)
  · have N4 := h.2.grown hgr
    have H4 := OwnIn.turned hz (Turned.of_grown (lo := lo) (hi := hi) hgr (fun b e => by have := h.1.lt e; exact ⟨this.1, this.2.1⟩)) (.inr (Nat.le_refl _))
    have N5 := N4.snoc (p := p) H4 hlo hhi (fun b e => (h.1.lt e).2.1)
    exact (N5.reblock (hg4.imp id (fun e b hb => by cases hb; omega))).mono (Nat.le_refl _) hgr.size
theorem RawIntS.cursor {lo hi bc : Nat} {w w' : World} {v : Value} {ps : List PIntS} (h : RawIntS lo hi w v ps) (hg : w.grownBy w' (some bc)) (hbc : bc < lo) : RawIntS lo hi w' v ps :=
  h.keep fun b h1 _ h3 => hg.block b h3 (fun e => by cases e; omega)
theorem own_hd {w : World} {lo : Nat} {v : Value} {xs : List Int} (h : w.ownsRow lo 3 1 v xs.length (intCells xs)) : ∃ hd : Hd, v = .slice hd.a hd.n hd.c ∧ HInts lo w.heap.size w hd xs := by
  rcases h.2 with ⟨rfl, h0⟩ | ⟨g, c, cur, rfl, _⟩
  · exact ⟨⟨none, 0, 0⟩, rfl, OwnIn.of_row h (Nat.le_refl _) (Nat.le_refl _)⟩
  · exact ⟨⟨some ⟨g, 0, none⟩, xs.length, c⟩, rfl, OwnIn.of_row h (Nat.le_refl _) (Nat.le_refl _)⟩
theorem one_intsW (zs : List Int) : ∀ u ∈ intCells zs, u.oneCell' = true := by
  intro u hu
  obtain ⟨z, _, rfl⟩ := List.mem_map.1 hu
  rfl
theorem srcIntsW {w : World} {a : Option Addr} {len cap : Nat} {zs : List Int} (h : IsInts w a len cap zs) : SrcAt w a len 1 (intCells zs) := by
  refine ⟨by rw [intCells_len, h.1, Nat.mul_one], ?_⟩
  rcases h.2.2.2 with h0 | ⟨b, o, rfl, hb, hat⟩
  · exact .inl h0
  · refine .inr ⟨_, rfl, fun j u hj => ?_⟩
    rw [add_plain]
    unfold intCells at hj
    rw [List.getElem?_map] at hj
    cases hz : zs[j]? with
    | none => rw [hz] at hj; cases hj
    | some z => rw [hz] at hj; cases hj; exact hat j z hz
theorem made_intsW (w : World) (base : Nat) (h : base ≤ w.heap.size) : (w.alloc (.cells #[] 3)).ownsRow base 3 1 (.slice (some ⟨w.heap.size, 0, none⟩) 0 0) 0 [] :=
  World.ownsRow_made (base := base) (e := 3) (size := 1) w #[] 0 h (Nat.zero_le _) rfl
theorem HPost.of_rowW {w w' : World} {v : Value} {zs : List Int} (h : w'.ownsRow w.heap.size 3 1 v zs.length (intCells zs)) (_ : Below w.heap.size w w') : ∃ h : Hd, v = .slice h.a h.n h.c ∧ HInts w.heap.size w'.heap.size w' h zs := by
  rcases h.2 with ⟨rfl, h0⟩ | ⟨g, c, cur, rfl, _⟩
  · exact ⟨⟨none, 0, 0⟩, rfl, OwnIn.of_row h (Nat.le_refl _) (Nat.le_refl _)⟩
  · exact ⟨⟨some ⟨g, 0, none⟩, zs.length, c⟩, rfl, OwnIn.of_row h (Nat.le_refl _) (Nat.le_refl _)⟩
set_option maxHeartbeats 3200000 in
set_option maxRecDepth 100000 in
theorem l1OwnW_any (a : Option Addr) (len cap : Nat) (zs : List Int) (w : World) (h : IsInts w a len cap zs) (hx : zs.length ≤ 1048576) :
    Calls Try.prog 138 #[.slice a len cap] w (HPost zs w) := by
  obtain rfl := h.1
  obtain ⟨i0, hi, hz0, hz1, hz2⟩ := info_parts infoInt
  have B0 := Lib.hid (bel_al1 w (.cells #[] 3))
  have O0 := made_intsW w w.heap.size (Nat.le_refl _)
  have SRC := srcIntsW (h.below B0.out)
  have SZ := Lib.hid (size_al w (.cells #[] 3))
  clear h
  go_enter Try.func138, Try.ntmps138
  go_wp2_with (at_builtin; refine wpList_append_list rfl _ _ 38 rfl w.heap.size 3 i0 (.int .i64 0) 1 8 Try.underlying38 hi hz0 hz1 hz2 rfl (by decide) _ _ _ rfl O0 _ zs.length cap (intCells zs) rfl SRC (one_intsW zs) (by simp; unfold maxLen; omega) (by simp; omega) (by rw [SZ.out]; omega) ?_; intro v1 w1 hown1 hgrow1; have B1 := Lib.hid (B0.out.grown hgrow1 (by rw [SZ.out]; omega) (fun k e => by have := own_is e; omega)); have O1 := Lib.hid hown1; clear hown1 hgrow1)
  go_ret
  have h := O1.out
  simp only [Nat.zero_add, List.nil_append] at h
  obtain ⟨q, e, hq⟩ := HPost.of_rowW h B1.out
  exact ⟨q, by rw [← e]; rfl, hq, B1.out⟩
def lenW : Value → Nat
  | .slice _ n _ => n
  | _ => 0
theorem litH1 (w : World) (x : Int) : HInts w.heap.size (w.alloc (.cells #[.int .i64 x] 3)).heap.size (w.alloc (.cells #[.int .i64 x] 3)) ⟨some ⟨w.heap.size, 0, none⟩, 1, 1⟩ [x] :=
  OwnIn.of_row (World.ownsRow_lit (base := w.heap.size) (e := 3) (size := 1) w #[.int .i64 x] 1 (Nat.le_refl _) (by simp [maxLen]) rfl) (Nat.le_refl _) (Nat.le_refl _)
theorem litH0 (w : World) : HInts w.heap.size (w.alloc (.cells #[] 3)).heap.size (w.alloc (.cells #[] 3)) ⟨some ⟨w.heap.size, 0, none⟩, 0, 0⟩ [] :=
  OwnIn.of_row (World.ownsRow_made (base := w.heap.size) (e := 3) (size := 1) w #[] 0 (Nat.le_refl _) (Nat.zero_le _) rfl) (Nat.le_refl _) (Nat.le_refl _)
/-- Two empty rows, as a literal. -/
theorem two_empty (w : World) : OwnIntSS w.heap.size (((w.alloc (.cells #[] 3)).alloc (.cells #[] 3)).alloc (.cells #[.slice (some ⟨w.heap.size, 0, none⟩) 0 0, .slice (some ⟨w.heap.size + 1, 0, none⟩) 0 0] 38)).heap.size (((w.alloc (.cells #[] 3)).alloc (.cells #[] 3)).alloc (.cells #[.slice (some ⟨w.heap.size, 0, none⟩) 0 0, .slice (some ⟨w.heap.size + 1, 0, none⟩) 0 0] 38)) (.slice (some ⟨w.heap.size + 2, 0, none⟩) 2 2) [[], []] := by
  have s1 := size_al w (.cells #[] 3)
  have s2 := size_al (w.alloc (.cells #[] 3)) (.cells #[] 3)
  have z1 := litH0 w
  have z2 := litH0 (w.alloc (.cells #[] 3))
  rw [s1] at z2
  have n0 := nil_InnerIntS w.heap.size w.heap.size (w.alloc (.cells #[] 3)) none
  have n1 := n0.snoc (p := ⟨[], ⟨some ⟨w.heap.size, 0, none⟩, 0, 0⟩⟩) z1 (Nat.le_refl _) (by rw [s1]; omega) (fun b e => by cases e)
  rw [s1] at n1
  have n2 := (n1.below (bel_al1 _ (.cells #[] 3))).snoc (p := ⟨[], ⟨some ⟨w.heap.size + 1, 0, none⟩, 0, 0⟩⟩) z2 (by omega) (by rw [s2, s1]; omega) (fun b e => by cases e)
  have n3 := n2.below (bel_al1 _ (.cells #[.slice (some ⟨w.heap.size, 0, none⟩) 0 0, .slice (some ⟨w.heap.size + 1, 0, none⟩) 0 0] 38))
  have o := World.ownsRow_lit (base := w.heap.size) (e := 38) (size := 1) ((w.alloc (.cells #[] 3)).alloc (.cells #[] 3)) #[.slice (some ⟨w.heap.size, 0, none⟩) 0 0, .slice (some ⟨w.heap.size + 1, 0, none⟩) 0 0] 2 (by rw [s2, s1]; omega) (by simp [maxLen]) rfl
  have e2 : ((w.alloc (.cells #[] 3)).alloc (.cells #[] 3)).heap.size = w.heap.size + 2 := by rw [s2, s1]
  rw [e2] at o
  refine ⟨[⟨[], ⟨some ⟨w.heap.size, 0, none⟩, 0, 0⟩⟩, ⟨[], ⟨some ⟨w.heap.size + 1, 0, none⟩, 0, 0⟩⟩], rfl, OwnIn.of_row o (Nat.le_refl _) (Nat.le_refl _), ?_⟩
  exact (n3.reblock (.inr (fun b e => by cases e; rw [e2]; exact Nat.le_refl _))).mono (Nat.le_refl _) (bel_al1 _ _).size
/-- A list of lists of numbers that the draw owns; only the cursor has turned. -/
def ReliefDrawn (bc : Nat) (a : Option Addr) (len cap t : Nat) (w : World) (e : Ending) (w' : World) : Prop :=
  ∃ (v : Value) (D : List VIntS), e = .returned v ∧ D.length ≤ 10 ∧ (∀ r ∈ D, r.length ≤ 5) ∧ OwnIntSS w.heap.size w'.heap.size w' v D ∧ CurAt w' bc a len cap t ∧ w.grownBy w' (some bc)
set_option maxHeartbeats 12800000 in
set_option maxRecDepth 100000 in
theorem relief_any (bc : Nat) (a : Option Addr) (len cap t : Nat) (w : World) (hc : CurAt w bc a len cap t) (hd : CodeAt w a len cap bc) (ht : t ≤ 700000) :
    Calls Try.prog 96 #[.pointer (some ⟨bc, 0, none⟩)] w (ReliefDrawn bc a len cap (t + 200) w) := by
  obtain ⟨i0, hi, hz0, hz1, hz2⟩ := info_parts infoIntS
  obtain ⟨i1, hj, hy0, hy1, hy2⟩ := info_parts infoInt
  have C := Lib.hid hc
  have D := Lib.hid hd
  have hbc := hc.lt
  clear hc hd
  go_enter Try.func96, Try.ntmps96
  go_wp2_with fail
  refine (pick_any bc a len cap _ 5 _ C.out D.out (by omega) (by omega) (by omega)).mono ?_
  rintro e w1 ⟨p, rfl, p0, p1, hc, hg⟩
  have G1 := Lib.hid hg
  have C1 := Lib.hid hc
  have D1 := Lib.hid (D.out.grown hg)
  have hs1 := hg.size
  obtain ⟨p, rfl⟩ : ∃ n : Nat, p = n := ⟨p.toNat, by omega⟩
  clear hc hg
  go_wp2_with fail
  refine (pick_any bc a len cap _ 5 _ C1.out D1.out (by omega) (by omega) (by omega)).mono ?_
  rintro e w2 ⟨q, rfl, q0, q1, hc, hg⟩
  have G2 := Lib.hid (grown_trans G1.out hg)
  have C2 := Lib.hid hc
  have hs2 := G2.out.size
  obtain ⟨q, rfl⟩ : ∃ n : Nat, q = n := ⟨q.toNat, by omega⟩
  clear hc hg
  go_wp2
  go_loopw [6, 5] (fun i v wr => ∃ (k g c : Nat) (ps : List PIntS), k ≤ 1 + p ∧ i = .int .i64 k ∧ v = .slice (some ⟨g, 0, none⟩) k c ∧ (∀ x ∈ ps, x.x.length = 1 + q) ∧ RawIntS w.heap.size wr.heap.size wr (.slice (some ⟨g, 0, none⟩) k c) ps ∧ CurAt wr bc a len cap (t + 4 + 12 * k) ∧ w.grownBy wr (some bc)) (fun i _ _ => 1 + p - (intOf i).toNat)
  case atStart => exact ⟨0, w2.heap.size, 0, [], Nat.zero_le _, rfl, rfl, fun x hx => by simp at hx, (made_rows w2).mono hs2 (Nat.le_refl _), (C2.out.alloc _).more (by omega), grow_al G2.out _⟩
  case round =>
    obtain ⟨k, g, c, ps, hk, rfl, rfl, hps, hraw, hcur, hgr⟩ := hrel
    have O := Lib.hid hraw
    have CK := Lib.hid hcur
    have GK := Lib.hid hgr
    have DK := Lib.hid (D.out.grown hgr)
    have PS := Lib.hid hps
    have hsz := hgr.size
    have PL := Lib.hid hraw.len.1
    by_cases hlt : k < 1 + p
    · have k1 : (k : Int) < 1 + (p : Int) := by omega
      have M0 := Lib.hid (World.ownsRow_made (base := wr.heap.size) (e := 3) (size := 1) wr #[] 0 (Nat.le_refl _) (Nat.zero_le _) rfl)
      clear hraw hcur hgr hps
      rename World => wk
      go_wp2
      go_loopw [8, 7] (fun i v wr => ∃ (j : Nat) (xs : List Int), j ≤ 1 + q ∧ i = .int .i64 j ∧ xs.length = j ∧ wr.ownsRow wk.heap.size 3 1 v xs.length (intCells xs) ∧ CurAt wr bc a len cap (t + 4 + 12 * k + 2 * j) ∧ wk.grownBy wr (some bc)) (fun i _ _ => 1 + q - (intOf i).toNat)
      case atStart => exact ⟨0, [], Nat.zero_le _, rfl, rfl, M0.out, CK.out.alloc _, grow_al (World.grownBy.refl wk (some bc)) _⟩
      case round =>
        obtain ⟨j, xs, hj', rfl, hxl, hown, hcur, hgr⟩ := hrel
        have OJ := Lib.hid hown
        have XL := Lib.hid hxl
        have CJ := Lib.hid hcur
        have GJ := Lib.hid hgr
        have DJ := Lib.hid (DK.out.grown hgr)
        have hsj := hgr.size
        clear hxl
        by_cases hlj : j < 1 + q
        · have j1 : (j : Int) < 1 + (q : Int) := by omega
          clear hown hcur hgr
          go_wp2_with fail
          refine (among_any bc a len cap _ wr.heap.size 0 8 8 0 13 _ (CJ.out.alloc _) (DJ.out.alloc _) (by omega) (by omega) (by omega) (by omega) (by simp) ?_).mono ?_
          · refine ints_at _ _ _ 0 13 8 _ rfl rfl ?_
            repeat (refine List.forall_mem_cons.2 ⟨⟨_, by omega, by omega, rfl⟩, ?_⟩)
            exact fun _ h => by cases h
          rintro e w3 ⟨y, rfl, y0, y1, hc, hg⟩
          have C3 := Lib.hid hc
          have G3 := Lib.hid (grown_trans (grow_al GJ.out _) hg)
          have O3 := ownsRow_grown0 (World.ownsRow.alloc OJ.out _) hg (by intro k e; cases e; omega)
          have hown3 := World.ownsRow.alloc O3 (.cells #[.int .i64 y] 3)
          have hs3 := G3.out.size
          clear hc hg O3
          go_wp2_with (at_builtin; refine wpList_append_own _ rfl _ _ 38 rfl wk.heap.size 3 i1 (.int .i64 0) 1 8 Try.underlying38 hj hy0 hy1 hy2 rfl (by decide) _ _ _ rfl hown3 ⟨w3.heap.size, 0, none⟩ 1 1 [.int .i64 y] rfl rfl (cell_one _ _ _) (fun x hx => by simp at hx; subst hx; rfl) (by unfold maxLen; have := XL.out; omega) (by have := XL.out; omega) (by rw [size_al]; omega) ?_; intro v' w4 hown' hgrow4 _)
          have hne := fun j e => (hown3.lt j e).1
          have C4 := Lib.hid ((C3.out.alloc (.cells #[.int .i64 y] 3)).grown hgrow4 (fun e => by have := hne bc e.symm; omega))
          have G4 := Lib.hid (grown_own0 (grow_al G3.out _) hgrow4 hne)
          have O4 := Lib.hid (show w4.ownsRow wk.heap.size 3 1 v' (xs ++ [y]).length (intCells (xs ++ [y])) from by rw [List.length_append]; simpa [intCells] using hown')
          clear hown' hgrow4 hown3 hne
          go_roundw
          case rel => exact ⟨j + 1, xs ++ [y], by omega, by go_num, by have := XL.out; simp; omega, O4.out, C4.out.more (by omega), G4.out⟩
          case measure => simp [intOf]; omega
        · obtain rfl : j = 1 + q := by omega
          obtain ⟨hd, rfl, hz⟩ := own_hd hown
          have OR := Lib.hid (O.out.cursor GJ.out hbc)
          have Z1 := Lib.hid hz
          clear hown hcur hgr hz
          rename World => wl
          go_wp2_with (at_builtin; refine wpList_append_lies _ rfl _ _ 24 rfl w.heap.size 38 i0 (.slice none 0 0) 1 24 Try.underlying24 hi hz0 hz1 hz2 rfl (by decide) _ _ _ rfl (World.ownsRow.alloc OR.out.row _) ⟨_, 0, none⟩ 1 1 (PIntS.vals ⟨xs, hd⟩) rfl rfl (cell_IntS _ ⟨xs, hd⟩ _ _ rfl) (PIntS.vals_one _) (by decide) (by unfold maxLen; omega) (by omega) (by rw [size_al]; omega) _ rfl ?_; intro g4 cap4 w4 hown4 hgrow4 hg4 hlt4)
          have hgl := OR.out.1.lt (b := g) rfl
          have HM := (Z1.out.below (bel_al1 wl (.cells #[.slice hd.a hd.n hd.c] 38))).mono (Nat.le_refl wk.heap.size) (bel_al1 wl (.cells #[.slice hd.a hd.n hd.c] 38)).size
          have OA := OR.out.keep (w' := wl.alloc (.cells #[.slice hd.a hd.n hd.c] 38)) (fun b _ _ hs => (bel_al1 wl _).block b hs)
          have N4 := Lib.hid (OA.snoc2 (p := ⟨xs, hd⟩) PL.out.symm hsz (by rw [size_al]; omega) HM hown4 hgrow4 hg4)
          have C4 := Lib.hid ((CJ.out.alloc (.cells #[.slice hd.a hd.n hd.c] 38)).grown hgrow4 (fun e => by have e2 : bc = g := Option.some.inj e; have := hgl.1; omega))
          have G4 := Lib.hid (grown_own0 (grow_al (grown_trans GK.out GJ.out) _) hgrow4 (fun j e => by cases e; exact hgl.1))
          clear HM OA hown4 hgrow4 hg4
          go_roundw
          case rel => exact ⟨k + 1, g4, cap4, ps ++ [⟨xs, hd⟩], by omega, by go_num, rfl, (fun x hx => by
            rcases List.mem_append.1 hx with h | h
            · exact PS.out x h
            · rw [List.mem_singleton.1 h]; exact XL.out), N4.out, C4.out.more (by omega), G4.out⟩
          case measure => simp [intOf]; omega
    · obtain rfl : k = 1 + p := by omega
      clear hraw hcur hgr hps
      go_wp2_with fail
      refine (pick_any bc a len cap _ 32 _ CK.out DK.out (by omega) (by omega) (by omega)).mono ?_
      rintro e w5 ⟨r, rfl, r0, r1, hc, hg⟩
      have C5 := Lib.hid hc
      have D5 := Lib.hid (DK.out.grown hg)
      have G5 := Lib.hid (grown_trans GK.out hg)
      have O5 := Lib.hid ((O.out.cursor hg hbc).mono (Nat.le_refl _) hg.size)
      have hs5 := G5.out.size
      clear hc hg O CK DK GK
      rename World => w5
      by_cases h0 : r = 0
      · subst h0
        have DK5 := D5
        have hgl := O5.out.1.lt (b := g) rfl
        have GR := Lib.hid (show GridIn w.heap.size w5.heap.size w5 g (1 + p) c (ps.map PIntS.x) from ⟨ps, rfl, O5.out⟩)
        have RW := Lib.hid (show ∀ z, z < 1 + p → ∃ y : List Int, (ps.map PIntS.x)[z]? = some y ∧ y.length = 1 + q from fun z hz => by
          obtain ⟨y, hy⟩ : ∃ y, ps[z]? = some y := ⟨ps[z]'(by have := PL.out; omega), List.getElem?_eq_getElem _⟩
          exact ⟨y.x, by rw [List.getElem?_map, hy]; rfl, PS.out y (List.mem_of_getElem? hy)⟩)
        have F := Lib.hid (show ∀ z, z < 1 + p → ∃ b cb, w5.cell? ⟨g, z, none⟩ = some (.slice (some ⟨b, 0, none⟩) (1 + q) cb) ∧ b ≠ bc ∧ b < w5.heap.size from fun z hz => by
          obtain ⟨y, hy, hyl⟩ := RW.out z hz
          obtain ⟨b, cb, h1, _, h2, _⟩ := GR.out.row hy (by omega)
          rw [hyl] at h1
          exact ⟨b, cb, h1, by omega, h2.2.2⟩)
        have CD := Lib.hid (show CurAt w5.drew bc a len cap (t + 4 + 12 * (1 + p) + 2) from C5.out.heap rfl)
        have GD := Lib.hid (show w5.grownBy w5.drew (some bc) from grown_below (bel_drew' (Below.refl _ _)) _)
        have DD := Lib.hid (D5.out.grown GD.out)
        have TR := Lib.hid (show ∀ (W : World) (z b cb : Nat), w5.grownBy W (some bc) → w5.cell? ⟨g, z, none⟩ = some (.slice (some ⟨b, 0, none⟩) (1 + q) cb) → W.cell? ⟨g, z, none⟩ = some (.slice (some ⟨b, 0, none⟩) (1 + q) cb) from fun W z b cb hG hc => (World.cell?_of_block (a := ⟨g, z, none⟩) (hG.block g hgl.2.1 (fun e => by cases e; omega))).trans hc)
        have IL := Lib.hid (show ∀ W : World, (w5.drew.alloc (.cells #[.int .i64 (-1), .int .i64 9999, .int .i64 10000] 3)).grownBy W (some bc) → ∀ i, i < 3 → ∃ x : Int, -1 ≤ x ∧ x ≤ 10000 ∧ W.cell? ⟨w5.heap.size, 0 + i, none⟩ = some (.int .i64 x) from fun W hG i hi => by
          obtain ⟨x, h1, h2, h3⟩ := ints_at w5.drew #[.int .i64 (-1), .int .i64 9999, .int .i64 10000] 3 (-1) 10000 3 w5.heap.size rfl rfl (by
            refine List.forall_mem_cons.2 ⟨⟨_, by omega, by omega, rfl⟩, ?_⟩
            refine List.forall_mem_cons.2 ⟨⟨_, by omega, by omega, rfl⟩, ?_⟩
            refine List.forall_mem_cons.2 ⟨⟨_, by omega, by omega, rfl⟩, ?_⟩
            exact fun _ h => by cases h) i hi
          exact ⟨x, h1, h2, (World.cell?_of_block (a := ⟨w5.heap.size, 0 + i, none⟩) (hG.block w5.heap.size (by rw [size_al]; exact Nat.lt_succ_self _) (fun e => by cases e; omega))).trans h3⟩)
        have IS := Lib.hid (show ∀ W : World, (w5.drew.alloc (.cells #[.int .i64 (-1), .int .i64 9999, .int .i64 10000] 3)).grownBy W (some bc) → w5.heap.size < W.heap.size from fun W hG => by
          have h9 := hG.size
          rw [size_al] at h9
          exact h9)
        have EN := Lib.hid (show ∀ (W : World) (z b cb : Nat) (y : Int), z < 1 + p → w5.grownBy W (some bc) → w5.cell? ⟨g, z, none⟩ = some (.slice (some ⟨b, 0, none⟩) (1 + q) cb) → ∃ D' : List VIntS, D'.length ≤ 10 ∧ (∀ r ∈ D', r.length ≤ 5) ∧ OwnIntSS w.heap.size (W.setCell ⟨b, 0, none⟩ (.int .i64 y)).heap.size (W.setCell ⟨b, 0, none⟩ (.int .i64 y)) (.slice (some ⟨g, 0, none⟩) (1 + p) c) D' ∧ W.grownBy (W.setCell ⟨b, 0, none⟩ (.int .i64 y)) (some b) ∧ (∃ u, W.cell? ⟨b, 0, none⟩ = some u) ∧ W.frozen? ⟨b, 0, none⟩ = false ∧ w.heap.size ≤ b from fun W z b cb y hz hG hc => by
          obtain ⟨row, hy, hyl⟩ := RW.out z hz
          have GW : GridIn w.heap.size w5.heap.size W g (1 + p) c (ps.map PIntS.x) := ⟨ps, rfl, O5.out.cursor hG hbc⟩
          obtain ⟨b2, cb2, h1, _, h2, _, h3, h4, h5, _⟩ := GW.row hy (by omega)
          have h6 := TR.out W z b cb hG hc
          rw [h1, hyl] at h6
          simp only [Option.some.injEq, Value.slice.injEq, Addr.mk.injEq, and_true, true_and] at h6
          obtain ⟨rfl, rfl⟩ := h6
          have h7 := h5 0 y
          have hG2 := hG.size
          obtain ⟨v0, hv0⟩ : ∃ v0, row[0]? = some v0 := ⟨row[0]'(by omega), List.getElem?_eq_getElem _⟩
          refine ⟨_, ?_, ?_, (h7.1.own).mono (Nat.le_refl _) (Nat.le_trans hG2 h7.2.size), h7.2, ⟨_, h3 0 v0 hv0⟩, h4 0, h2.1⟩
          · rw [List.length_set, List.length_map, ← PL.out]; omega
          · intro r hr
            rcases List.mem_or_eq_of_mem_set hr with h | h
            · obtain ⟨x, hx, rfl⟩ := List.mem_map.1 h
              rw [PS.out x hx]; omega
            · rw [h, List.length_set, hyl]; omega)
        have p1' : (0 : Int) < 1 + (p : Int) := by omega
        have q1' : (0 : Int) < 1 + (q : Int) := by omega
        clear C5 D5 GR RW
        go_wp2
        go_region_law (first
          | (go_simp; go_at_call 136; refine (pick_anyI bc a len cap _ _ _ (by first | exact CD.out | exact CD.out.alloc _) (by first | exact DD.out | exact DD.out.alloc _) (by omega) (by omega) (by omega)).mono ?_; rintro e w6 ⟨z', rfl, z0, z1, hc, hg⟩; have hzz : ∃ z : Nat, z' = (z : Int) := ⟨z'.toNat, by omega⟩; obtain ⟨z, rfl⟩ := hzz; have hz : z < 1 + p := (by omega); have G6 := Lib.hid (show w5.grownBy w6 (some bc) from (by first | exact grown_trans GD.out hg | exact grown_trans (grow_al GD.out _) hg)); have C6 := Lib.hid hc; have D6 := Lib.hid (DK5.out.grown G6.out); obtain ⟨b, cb, f0, fb, fb2⟩ := F.out z hz; have e6 := TR.out w6 z b cb G6.out f0; have e6b := TR.out (w6.alloc (.cells #[.int .i64 (-1), .int .i64 9999, .int .i64 10000] 3)) z b cb (grow_al G6.out _) f0; (try (have L6 := Lib.hid (IL.out w6 hg))); (try (have L6s := IS.out w6 hg)); have s6 := G6.out.size; clear hc hg)
          | (go_simp; go_at_call 137; refine (among_any bc a len cap _ _ 0 3 3 (-1) 10000 _ (by first | exact C6.out | exact C6.out.alloc _) (by first | exact D6.out | exact D6.out.alloc _) (by omega) (by omega) (by omega) (by omega) (by first | omega | (rw [size_al]; omega)) (by first | exact L6.out | exact (ints_at _ _ _ (-1) 10000 3 _ rfl rfl (by (repeat (refine List.forall_mem_cons.2 ⟨⟨_, by omega, by omega, rfl⟩, ?_⟩)); exact fun _ h => by cases h)))).mono ?_; rintro e w7 ⟨y, rfl, y0, y1, hc, hg⟩; have G7 := Lib.hid (show w5.grownBy w7 (some bc) from (by first | exact grown_trans G6.out hg | exact grown_trans (grow_al G6.out _) hg)); have C7 := Lib.hid hc; have e7 := TR.out w7 z b cb G7.out f0; obtain ⟨D', l1, l2, o7, gs7, ⟨u7, c7⟩, f7, b7⟩ := EN.out w7 z b cb y hz G7.out f0; have OO := Lib.hid o7; have GS := Lib.hid gs7; have LL := Lib.hid (show D'.length ≤ 10 ∧ ∀ r ∈ D', r.length ≤ 5 from ⟨l1, l2⟩); clear hc hg o7 gs7 l1 l2))
        all_goals
          go_wp2
          go_ret
          exact ⟨_, D', rfl, LL.out.1, LL.out.2, OO.out, (C7.out.grown GS.out (fun e => fb (Option.some.inj e).symm)).more (by omega), grown_own0 (grown_trans G5.out G7.out) GS.out (fun j e => by cases e; exact b7)⟩
      by_cases h1 : r = 1
      · subst h1
        go_wp2_with (at_builtin; refine wpList_append_lies _ rfl _ _ 24 rfl w.heap.size 38 i0 (.slice none 0 0) 1 24 Try.underlying24 hi hz0 hz1 hz2 rfl (by decide) _ _ _ rfl (World.ownsRow.alloc (World.ownsRow.alloc O5.out.row _) _) ⟨_, 0, none⟩ 1 1 (PIntS.vals ⟨[1], ⟨some ⟨w5.heap.size, 0, none⟩, 1, 1⟩⟩) rfl rfl (cell_IntS _ ⟨[1], ⟨some ⟨w5.heap.size, 0, none⟩, 1, 1⟩⟩ _ _ (size_al _ _)) (PIntS.vals_one _) (by decide) (by unfold maxLen; omega) (by omega) (by rw [size_al, size_al]; omega) _ rfl ?_; intro g4 cap4 w4 hown4 hgrow4 hg4 hlt4)
        have hgl := O5.out.1.lt (b := g) rfl
        have bb := Below.then' (bel_al1 w5 (.cells #[.int .i64 1] 3)) (bel_al1 _ (.cells #[.slice (some ⟨w5.heap.size, 0, none⟩) 1 1] 38))
        have OA := O5.out.keep (w' := (w5.alloc (.cells #[.int .i64 1] 3)).alloc (.cells #[.slice (some ⟨w5.heap.size, 0, none⟩) 1 1] 38)) (fun b _ _ hs => bb.block b hs)
        have HM := ((litH1 w5 1).below (bel_al1 _ (.cells #[.slice (some ⟨w5.heap.size, 0, none⟩) 1 1] 38))).mono (Nat.le_refl w5.heap.size) (bel_al1 _ (.cells #[.slice (some ⟨w5.heap.size, 0, none⟩) 1 1] 38)).size
        have N4 := Lib.hid (OA.snoc2 (p := ⟨[1], ⟨some ⟨w5.heap.size, 0, none⟩, 1, 1⟩⟩) PL.out.symm hs5 bb.size HM hown4 hgrow4 hg4)
        have C4 := Lib.hid (((C5.out.alloc (.cells #[.int .i64 1] 3)).alloc (.cells #[.slice (some ⟨w5.heap.size, 0, none⟩) 1 1] 38)).grown hgrow4 (fun e => by have e2 : bc = g := Option.some.inj e; have := hgl.1; omega))
        have G4 := Lib.hid (grown_own0 (grow_al (grow_al G5.out _) _) hgrow4 (fun j e => by cases e; exact hgl.1))
        clear HM OA hown4 hgrow4 hg4 bb
        go_wp2
        go_ret
        refine ⟨_, _, rfl, ?_, ?_, ⟨_, rfl, N4.out⟩, C4.out.more (by omega), G4.out⟩
        · rw [List.length_map, List.length_append, ← PL.out]; simp; omega
        · intro x hx
          obtain ⟨y, hy, rfl⟩ := List.mem_map.1 hx
          rcases List.mem_append.1 hy with h | h
          · rw [PS.out y h]; omega
          · rw [List.mem_singleton.1 h]; simp
      by_cases h2 : r = 2
      · subst h2
        have E := Lib.hid ((made_rows w5).mono hs5 (Nat.le_refl _))
        go_wp2
        go_ret
        exact ⟨_, [], rfl, by simp, by simp, ⟨[], rfl, E.out⟩, (C5.out.alloc _).more (by omega), grow_al G5.out _⟩
      by_cases h3 : r = 3
      · subst h3
        have E := Lib.hid ((two_empty w5).mono hs5 (Nat.le_refl _))
        go_wp2
        go_ret
        exact ⟨_, [[], []], rfl, by simp, by simp, E.out, (((C5.out.alloc _).alloc _).alloc _).more (by omega), grow_al (grow_al (grow_al G5.out _) _) _⟩
      by_cases h4 : r = 4
      · subst h4
        have C6 := Lib.hid (C5.out.more (t' := t + 70 + 2 * (1 + p)) (by omega))
        go_wp2
        go_loopw [5] (fun v wr => ∃ (n g c : Nat) (ps : List PIntS), 1 ≤ n ∧ n ≤ 9 ∧ v = .slice (some ⟨g, 0, none⟩) n c ∧ (∀ x ∈ ps, x.x.length = 1 + q) ∧ RawIntS w.heap.size wr.heap.size wr (.slice (some ⟨g, 0, none⟩) n c) ps ∧ CurAt wr bc a len cap (t + 70 + 2 * n) ∧ w.grownBy wr (some bc)) (fun v _ => 9 - lenW v)
        case atStart => exact ⟨1 + p, g, c, ps, by omega, by omega, rfl, PS.out, O5.out, C6.out, G5.out⟩
        case round =>
          obtain ⟨n, g, c, ps, hn1, hn9, rfl, hps, hraw, hcur, hgr⟩ := hrel
          have O := Lib.hid hraw
          have CN := Lib.hid hcur
          have GN := Lib.hid hgr
          have DN := Lib.hid (D.out.grown hgr)
          have PS := Lib.hid hps
          have PL := Lib.hid hraw.len.1
          have hsz := hgr.size
          clear hraw hcur hgr hps
          go_wp2_with fail
          refine (pick_any bc a len cap _ 2 _ CN.out DN.out (by omega) (by omega) (by omega)).mono ?_
          rintro e w6 ⟨z, rfl, z0, z1, hc, hg⟩
          have C7 := Lib.hid hc
          have G7 := Lib.hid (grown_trans GN.out hg)
          have O7 := Lib.hid ((O.out.cursor hg hbc).mono (Nat.le_refl _) hg.size)
          have hs7 := G7.out.size
          have vz : IntKind.i64.wrap (8 + z) = 8 + z := IntWalk.i64_in _ (by omega)
          clear hc hg
          by_cases hlt : (n : Int) < 8 + z
          · obtain ⟨y, hy⟩ : ∃ y, ps[0]? = some y := ⟨ps[0]'(by have := PL.out; omega), List.getElem?_eq_getElem _⟩
            obtain ⟨c0, hin⟩ := O7.out.elem hy
            have HI := Lib.hid hin
            have YL := Lib.hid (PS.out y (List.mem_of_getElem? hy))
            have n0 : (0 : Int) < (n : Int) := by omega
            clear hin hy
            go_wp2_with fail
            refine (l1OwnW_any _ _ _ y.x _ HI.out (by have := YL.out; omega)).mono ?_
            rintro e w8 ⟨h8, rfl, hz8, hb8⟩
            have O8 := Lib.hid (O7.out.keep (w' := w8) (fun b _ _ hs => hb8.block b hs))
            have Z8 := Lib.hid hz8
            have hs8 := hb8.size
            have C8 := Lib.hid (C7.out.heap (hb8.block bc C7.out.lt))
            have G8 := Lib.hid (grown_trans G7.out (grown_below hb8 (some bc)))
            clear hz8 hb8 c0
            go_wp2_with (at_builtin; refine wpList_append_lies _ rfl _ _ 24 rfl w.heap.size 38 i0 (.slice none 0 0) 1 24 Try.underlying24 hi hz0 hz1 hz2 rfl (by decide) _ _ _ rfl (World.ownsRow.alloc O8.out.row _) ⟨_, 0, none⟩ 1 1 (PIntS.vals ⟨y.x, h8⟩) rfl rfl (cell_IntS _ ⟨y.x, h8⟩ _ _ rfl) (PIntS.vals_one _) (by decide) (by unfold maxLen; omega) (by omega) (by rw [size_al]; omega) _ rfl ?_; intro g4 cap4 w4 hown4 hgrow4 hg4 hlt4)
            have hgl := O8.out.1.lt (b := g) rfl
            have HM := (Z8.out.below (bel_al1 w8 (.cells #[.slice h8.a h8.n h8.c] 38))).mono (Nat.le_refl w6.heap.size) (bel_al1 w8 (.cells #[.slice h8.a h8.n h8.c] 38)).size
            have OA := O8.out.keep (w' := w8.alloc (.cells #[.slice h8.a h8.n h8.c] 38)) (fun b _ _ hs => (bel_al1 w8 _).block b hs)
            have N4 := Lib.hid (OA.snoc2 (p := ⟨y.x, h8⟩) PL.out.symm hs7 (by rw [size_al]; omega) HM hown4 hgrow4 hg4)
            have C4 := Lib.hid ((C8.out.alloc (.cells #[.slice h8.a h8.n h8.c] 38)).grown hgrow4 (fun e => by have e2 : bc = g := Option.some.inj e; have := hgl.1; omega))
            have G4 := Lib.hid (grown_own0 (grow_al G8.out _) hgrow4 (fun j e => by cases e; exact hgl.1))
            clear HM OA hown4 hgrow4 hg4
            go_roundw
            case rel => exact ⟨n + 1, g4, cap4, ps ++ [⟨y.x, h8⟩], by omega, by omega, rfl, (fun x hx => by
              rcases List.mem_append.1 hx with h | h
              · exact PS.out x h
              · rw [List.mem_singleton.1 h]; exact YL.out), N4.out, C4.out.more (by omega), G4.out⟩
            case measure => simp [lenW]; omega
          · go_wp2
            go_ret
            refine ⟨_, _, rfl, ?_, ?_, ⟨ps, rfl, O7.out⟩, C7.out.more (by omega), G7.out⟩
            · rw [List.length_map, ← PL.out]; omega
            · intro x hx
              obtain ⟨y, hy, rfl⟩ := List.mem_map.1 hx
              rw [PS.out y hy]; omega
      have c0 : (r == (0 : Int)) = false := by simpa using h0
      have c1 : (r == (1 : Int)) = false := by simpa using h1
      have c2 : (r == (2 : Int)) = false := by simpa using h2
      have c3 : (r == (3 : Int)) = false := by simpa using h3
      have c4 : (r == (4 : Int)) = false := by simpa using h4
      clear h0 h1 h2 h3 h4
      go_wp2
      go_ret
      refine ⟨_, _, rfl, ?_, ?_, ⟨ps, rfl, O5.out⟩, C5.out.more (by omega), G5.out⟩
      · rw [List.length_map, ← PL.out]; omega
      · intro x hx
        obtain ⟨y, hy, rfl⟩ := List.mem_map.1 hx
        rw [PS.out y hy]; omega
end Go.Proofs.Ytpnaciamnigbnaa
namespace Go.Proofs.Ytpnaciamnigbnaa
open Go.RowKit Go.Deep

/-- A relief that is drawn: small, and in memory of the call's own. -/
def ReliefAt (w : World) (e : Ending) (w' : World) : Prop := ∃ (a : Option Addr) (c : Nat) (D : List VIntS), e = .returned (.slice a D.length c) ∧ D.length ≤ 10 ∧ (∀ r ∈ D, r.length ≤ 5) ∧ IsIntSS w' a D.length c D ∧ Below w.heap.size w w'
theorem size_small : ∀ (D : List VIntS) (n : Nat), (∀ r ∈ D, r.length ≤ n) → sizeIntS D ≤ D.length * (n + 1) := by
  intro D n
  induction D with
  | nil => intro _; simp [sizeIntS]
  | cons r D ih =>
    intro h
    have h1 := ih (fun x hx => h x (List.mem_cons_of_mem _ hx))
    have h2 := h r (by simp)
    simp only [sizeIntS, List.length_cons, Nat.succ_mul]
    omega
theorem cond_small {D : List VIntS} (h1 : D.length ≤ 10) (h2 : ∀ r ∈ D, r.length ≤ 5) : condIntS D := by
  have := size_small D 5 h2
  unfold condIntS
  omega
set_option maxHeartbeats 1600000 in
set_option maxRecDepth 100000 in
theorem drawIsRelief_any (a : Option Addr) (len cap : Nat) (w : World) (h : CodeIn w a len cap) :
    Calls Try.prog 92 #[.slice a len cap] w (ReliefAt w) := by
  have C := Lib.hid (cur_new w a len cap)
  have D := Lib.hid (h.at (bel_alloc w (.cells #[.slice a len cap, .int .i64 0, .int .u64 0] 90)))
  clear h
  go_enter Try.func92, Try.ntmps92
  go_wp2_with fail
  refine (relief_any _ a len cap _ _ C.out D.out (by omega)).mono ?_
  rintro e w1 ⟨v, R, rfl, h1, h2, hown, hc, hg⟩
  have G1 := Lib.hid (below_cur (bel_alloc w _) rfl hg)
  obtain ⟨la, lc, rfl⟩ := hown.form
  have S1 := Lib.hid hown.is
  clear hc hg hown
  go_wp2
  go_ret
  exact ⟨la, lc, R, rfl, h1, h2, S1.out, G1.out⟩
set_option maxHeartbeats 1600000 in
set_option maxRecDepth 100000 in
theorem drawFilledRelief_any (a : Option Addr) (len cap : Nat) (w : World) (h : CodeIn w a len cap) :
    Calls Try.prog 34 #[.slice a len cap] w (ReliefAt w) := by
  go_enter Try.func34, Try.ntmps34
  go_wp2_with fail
  refine (drawIsRelief_any a len cap _ h).mono ?_
  rintro e w1 ⟨la, lc, R, rfl, h1, h2, hs, hb⟩
  have S1 := Lib.hid hs
  have B1 := Lib.hid hb
  clear hs hb
  go_wp2
  go_ret
  exact ⟨la, lc, R, rfl, h1, h2, S1.out, B1.out⟩
set_option maxHeartbeats 1600000 in
set_option maxRecDepth 100000 in
theorem drawSteepestSquare_any (a : Option Addr) (len cap : Nat) (w : World) (h : CodeIn w a len cap) :
    Calls Try.prog 44 #[.slice a len cap] w (ReliefAt w) := by
  go_enter Try.func44, Try.ntmps44
  go_wp2_with fail
  refine (drawIsRelief_any a len cap _ h).mono ?_
  rintro e w1 ⟨la, lc, R, rfl, h1, h2, hs, hb⟩
  have S1 := Lib.hid hs
  have B1 := Lib.hid hb
  clear hs hb
  go_wp2
  go_ret
  exact ⟨la, lc, R, rfl, h1, h2, S1.out, B1.out⟩
/-- Two numbers; only the cursor has turned. -/
def SquareDrawn (bc : Nat) (a : Option Addr) (len cap t : Nat) (w : World) (e : Ending) (w' : World) : Prop := ∃ x y : Int, e = .returned (.tuple #[.int .i64 x, .int .i64 y]) ∧ CurAt w' bc a len cap t ∧ w.grownBy w' (some bc)
end Go.Proofs.Ytpnaciamnigbnaa
namespace Go.Proofs.Ytpnaciamnigbnaa
open Go.RowKit Go.Deep

set_option maxHeartbeats 6400000 in
set_option maxRecDepth 100000 in
theorem squareOf_any (bc : Nat) (a : Option Addr) (len cap t : Nat) (la : Option Addr) (lc : Nat) (R : List VIntS) (w : World) (hc : CurAt w bc a len cap t) (hd : CodeAt w a len cap bc) (ht : t ≤ 800000) (hs : IsIntSS w la R.length lc R) (h1 : R.length ≤ 10) (h2 : ∀ r ∈ R, r.length ≤ 5) (hbn : ∀ b o, la = some ⟨b, o, none⟩ → b ≠ bc) :
    Calls Try.prog 97 #[.pointer (some ⟨bc, 0, none⟩), .slice la R.length lc] w (SquareDrawn bc a len cap (t + 20) w) := by
  have CW := Lib.hid hc
  have DW := Lib.hid hd
  have S := Lib.hid hs
  have hbc := hc.lt
  have GW := Lib.hid (World.grownBy.refl w (some bc))
  clear hc hd hs
  by_cases h0 : R.length = 0
  · have c0 : ((R.length : Int) == (0 : Int)) = true := beq_iff_eq.2 (by omega)
    clear h0
    go_enter Try.func97, Try.ntmps97
    go_wp2_with fail
    refine (among_any bc a len cap _ w.heap.size 0 3 3 (-1) 8 _ (CW.out.alloc _) (DW.out.alloc _) (by omega) (by omega) (by omega) (by omega) (by simp) ?_).mono ?_
    · refine ints_at _ _ _ (-1) 8 3 _ rfl rfl ?_
      repeat (refine List.forall_mem_cons.2 ⟨⟨_, by omega, by omega, rfl⟩, ?_⟩)
      exact fun _ h => by cases h
    rintro e w2 ⟨x, rfl, _, _, hc, hg⟩
    have G2 := Lib.hid (grown_trans (grow_al GW.out _) hg)
    have C2 := Lib.hid hc
    have D2 := Lib.hid (DW.out.grown G2.out)
    have hs2 := G2.out.size
    clear hc hg
    go_wp2_with fail
    refine (among_any bc a len cap _ w2.heap.size 0 3 3 (-1) 5 _ (C2.out.alloc _) (D2.out.alloc _) (by omega) (by omega) (by omega) (by omega) (by simp) ?_).mono ?_
    · refine ints_at _ _ _ (-1) 5 3 _ rfl rfl ?_
      repeat (refine List.forall_mem_cons.2 ⟨⟨_, by omega, by omega, rfl⟩, ?_⟩)
      exact fun _ h => by cases h
    rintro e w3 ⟨y, rfl, _, _, hc, hg⟩
    have G3 := Lib.hid (grown_trans (grow_al G2.out _) hg)
    have C3 := Lib.hid hc
    clear hc hg
    go_wp2
    go_ret2
    exact ⟨x, y, rfl, C3.out.more (by omega), G3.out⟩
  · obtain ⟨b, o, rfl, hb, hat⟩ := S.out.at (by omega)
    obtain ⟨r0, hr0⟩ : ∃ r0, R[0]? = some r0 := ⟨R[0]'(by omega), List.getElem?_eq_getElem _⟩
    obtain ⟨hh, g0, hin⟩ := hat 0 r0 hr0
    have hrl := h2 r0 (List.mem_of_getElem? hr0)
    have hne := hbn b o rfl
    rw [Nat.add_zero] at g0
    rw [hin.1] at g0
    have hcl := S.out.2.1
    have hcm := S.out.2.2.1
    unfold maxLen at hcm
    have c0 : ((R.length : Int) == (0 : Int)) = false := beq_eq_false_iff_ne.2 (by omega)
    have n0 : (0 : Int) < (R.length : Int) := by omega
    clear hat hin hr0
    by_cases hz : r0.length = 0
    · have c1 : ((r0.length : Int) == (0 : Int)) = true := beq_iff_eq.2 (by omega)
      clear hz h0
      go_enter Try.func97, Try.ntmps97
      go_wp2_with fail
      refine (among_any bc a len cap _ w.heap.size 0 3 3 (-1) 8 _ (CW.out.alloc _) (DW.out.alloc _) (by omega) (by omega) (by omega) (by omega) (by simp) ?_).mono ?_
      · refine ints_at _ _ _ (-1) 8 3 _ rfl rfl ?_
        repeat (refine List.forall_mem_cons.2 ⟨⟨_, by omega, by omega, rfl⟩, ?_⟩)
        exact fun _ h => by cases h
      rintro e w2 ⟨x, rfl, _, _, hc, hg⟩
      have G2 := Lib.hid (grown_trans (grow_al GW.out _) hg)
      have C2 := Lib.hid hc
      have D2 := Lib.hid (DW.out.grown G2.out)
      have hs2 := G2.out.size
      clear hc hg
      go_wp2_with fail
      refine (among_any bc a len cap _ w2.heap.size 0 3 3 (-1) 5 _ (C2.out.alloc _) (D2.out.alloc _) (by omega) (by omega) (by omega) (by omega) (by simp) ?_).mono ?_
      · refine ints_at _ _ _ (-1) 5 3 _ rfl rfl ?_
        repeat (refine List.forall_mem_cons.2 ⟨⟨_, by omega, by omega, rfl⟩, ?_⟩)
        exact fun _ h => by cases h
      rintro e w3 ⟨y, rfl, _, _, hc, hg⟩
      have G3 := Lib.hid (grown_trans (grow_al G2.out _) hg)
      have C3 := Lib.hid hc
      clear hc hg
      go_wp2
      go_ret2
      exact ⟨x, y, rfl, C3.out.more (by omega), G3.out⟩
    · have c1 : ((r0.length : Int) == (0 : Int)) = false := beq_eq_false_iff_ne.2 (by omega)
      go_enter Try.func97, Try.ntmps97
      go_wp2_with fail
      refine (one_any bc a len cap _ 12 _ CW.out DW.out (by omega) (by omega) (by omega)).mono ?_
      rintro e w1 ⟨bb, rfl, hc, hg⟩
      have G1 := Lib.hid hg
      have C1 := Lib.hid hc
      have D1 := Lib.hid (DW.out.grown hg)
      have hs1 := hg.size
      clear hc hg
      cases bb
      · have TR := Lib.hid (show ∀ W : World, w.grownBy W (some bc) → W.cell? ⟨b, o, none⟩ = some (.slice hh.a r0.length hh.c) from fun W hG => (World.cell?_of_block (a := ⟨b, o, none⟩) (hG.block b hb (fun e => hne (Option.some.inj e)))).trans g0)
        have GD := Lib.hid (show w.grownBy w1.drew (some bc) from grown_trans G1.out (grown_below (bel_drew' (Below.refl _ _)) _))
        have CD := Lib.hid (show CurAt w1.drew bc a len cap (t + 2) from C1.out.heap rfl)
        have DD := Lib.hid (DW.out.grown GD.out)
        have e1 := TR.out w1.drew GD.out
        clear C1 D1 g0
        go_wp2
        have n0' : 0 < R.length := by omega
        clear hbn h2
        go_region_held3 (fun u => u.cell? ⟨b, o, none⟩ = some (.slice hh.a r0.length hh.c))
          (first | exact e1 | exact TR.out _ G6.out | exact TR.out _ G7.out)
          (first
            | (go_at_call 136; refine (pick_anyI bc a len cap _ ((r0.length : Nat) : Int) _ C6.out D6.out (by omega) (by omega) (by omega)).mono ?_; rintro e w7 ⟨y, rfl, y0, y1, hc, hg⟩; have G7 := Lib.hid (grown_trans G6.out hg); have C7 := Lib.hid hc; clear hc hg)
            | (go_at_call 136; refine (pick_anyI bc a len cap _ ((R.length : Nat) : Int) _ CD.out DD.out (by omega) (by omega) (by omega)).mono ?_; rintro e w6 ⟨x, rfl, x0, x1, hc, hg⟩; have G6 := Lib.hid (grown_trans GD.out hg); have C6 := Lib.hid hc; have D6 := Lib.hid (DW.out.grown G6.out); clear hc hg))
        all_goals
          go_wp2
          go_ret2
          exact ⟨x, y, rfl, C7.out.more (by omega), G7.out⟩
      · clear g0
        go_wp2_with fail
        refine (among_any bc a len cap _ w1.heap.size 0 3 3 (-1) 8 _ (C1.out.alloc _) (D1.out.alloc _) (by omega) (by omega) (by omega) (by omega) (by simp) ?_).mono ?_
        · refine ints_at _ _ _ (-1) 8 3 _ rfl rfl ?_
          repeat (refine List.forall_mem_cons.2 ⟨⟨_, by omega, by omega, rfl⟩, ?_⟩)
          exact fun _ h => by cases h
        rintro e w2 ⟨x, rfl, _, _, hc, hg⟩
        have G2 := Lib.hid (grown_trans (grow_al G1.out _) hg)
        have C2 := Lib.hid hc
        have D2 := Lib.hid (DW.out.grown G2.out)
        have hs2 := G2.out.size
        clear hc hg
        go_wp2_with fail
        refine (among_any bc a len cap _ w2.heap.size 0 3 3 (-1) 5 _ (C2.out.alloc _) (D2.out.alloc _) (by omega) (by omega) (by omega) (by omega) (by simp) ?_).mono ?_
        · refine ints_at _ _ _ (-1) 5 3 _ rfl rfl ?_
          repeat (refine List.forall_mem_cons.2 ⟨⟨_, by omega, by omega, rfl⟩, ?_⟩)
          exact fun _ h => by cases h
        rintro e w3 ⟨y, rfl, _, _, hc, hg⟩
        have G3 := Lib.hid (grown_trans (grow_al G2.out _) hg)
        have C3 := Lib.hid hc
        clear hc hg
        go_wp2
        go_ret2
        exact ⟨x, y, rfl, C3.out.more (by omega), G3.out⟩
def ReliefSquareAt (w : World) (e : Ending) (w' : World) : Prop := ∃ (a : Option Addr) (c : Nat) (D : List VIntS) (x y : Int), e = .returned (.tuple #[.slice a D.length c, .int .i64 x, .int .i64 y]) ∧ D.length ≤ 10 ∧ (∀ r ∈ D, r.length ≤ 5) ∧ IsIntSS w' a D.length c D ∧ Below w.heap.size w w'
set_option maxHeartbeats 3200000 in
set_option maxRecDepth 100000 in
theorem drawNextSquare_any (a : Option Addr) (len cap : Nat) (w : World) (h : CodeIn w a len cap) :
    Calls Try.prog 32 #[.slice a len cap] w (ReliefSquareAt w) := by
  have C := Lib.hid (cur_new w a len cap)
  have D := Lib.hid (h.at (bel_alloc w (.cells #[.slice a len cap, .int .i64 0, .int .u64 0] 90)))
  clear h
  go_enter Try.func32, Try.ntmps32
  go_wp2_with fail
  refine (relief_any _ a len cap _ _ C.out D.out (by omega)).mono ?_
  rintro e w1 ⟨v, R, rfl, h1, h2, hown, hc, hg⟩
  have C1 := Lib.hid hc
  have D1 := Lib.hid (D.out.grown hg)
  have G1 := Lib.hid (below_cur (bel_alloc w _) rfl hg)
  obtain ⟨la, lc, rfl⟩ := hown.form
  have O1 := Lib.hid hown
  have hbn : ∀ b o, la = some ⟨b, o, none⟩ → b ≠ w.heap.size := fun b o e => by
    obtain ⟨ps, _, hp⟩ := hown
    subst e
    have := (hp.1.lt (b := b) rfl).1
    rw [size_al] at this
    omega
  clear hc hg hown
  go_wp2_with fail
  refine (squareOf_any _ a len cap _ la lc R _ C1.out D1.out (by omega) O1.out.is h1 h2 hbn).mono ?_
  rintro e w2 ⟨x, y, rfl, hc, hg⟩
  have G2 := Lib.hid (below_cur G1.out rfl hg)
  have S2 := Lib.hid (show IsIntSS w2 la R.length lc R from by
    obtain ⟨ps, e, hp⟩ := O1.out
    have h4 := (hp.cursor hg (by rw [size_al]; omega)).is
    rw [e] at h4
    exact h4)
  clear hc hg
  go_wp2
  go_ret3
  exact ⟨la, lc, R, x, y, rfl, h1, h2, S2.out, G2.out⟩
end Go.Proofs.Ytpnaciamnigbnaa
namespace Go.Proofs.Ytpnaciamnigbnaa
open Go.RowKit Go.Deep

set_option maxHeartbeats 1600000 in
set_option maxRecDepth 100000 in
theorem drawRunOff_any (a : Option Addr) (len cap : Nat) (w : World) (h : CodeIn w a len cap) :
    Calls Try.prog 17 #[.slice a len cap] w (ReliefSquareAt w) := by
  go_enter Try.func17, Try.ntmps17
  go_wp2_with fail
  refine (drawNextSquare_any a len cap _ h).mono ?_
  rintro e w1 ⟨la, lc, R, x, y, rfl, h1, h2, hs, hb⟩
  have S1 := Lib.hid hs
  have B1 := Lib.hid hb
  clear hs hb
  go_wp2
  go_ret3
  exact ⟨la, lc, R, x, y, rfl, h1, h2, S1.out, B1.out⟩
set_option maxHeartbeats 1600000 in
set_option maxRecDepth 100000 in
theorem drawCatchment_any (a : Option Addr) (len cap : Nat) (w : World) (h : CodeIn w a len cap) :
    Calls Try.prog 30 #[.slice a len cap] w (ReliefSquareAt w) := by
  go_enter Try.func30, Try.ntmps30
  go_wp2_with fail
  refine (drawNextSquare_any a len cap _ h).mono ?_
  rintro e w1 ⟨la, lc, R, x, y, rfl, h1, h2, hs, hb⟩
  have S1 := Lib.hid hs
  have B1 := Lib.hid hb
  clear hs hb
  go_wp2
  go_ret3
  exact ⟨la, lc, R, x, y, rfl, h1, h2, S1.out, B1.out⟩
set_option maxHeartbeats 1600000 in
set_option maxRecDepth 100000 in
theorem drawLevelAt_any (a : Option Addr) (len cap : Nat) (w : World) (h : CodeIn w a len cap) :
    Calls Try.prog 41 #[.slice a len cap] w (ReliefSquareAt w) := by
  go_enter Try.func41, Try.ntmps41
  go_wp2_with fail
  refine (drawNextSquare_any a len cap _ h).mono ?_
  rintro e w1 ⟨la, lc, R, x, y, rfl, h1, h2, hs, hb⟩
  have S1 := Lib.hid hs
  have B1 := Lib.hid hb
  clear hs hb
  go_wp2
  go_ret3
  exact ⟨la, lc, R, x, y, rfl, h1, h2, S1.out, B1.out⟩
set_option maxHeartbeats 1600000 in
set_option maxRecDepth 100000 in
theorem drawGreatestRiver_any (a : Option Addr) (len cap : Nat) (w : World) (h : CodeIn w a len cap) :
    Calls Try.prog 27 #[.slice a len cap] w (ReliefAt w) := by
  go_enter Try.func27, Try.ntmps27
  go_wp2_with fail
  refine (drawIsRelief_any a len cap _ h).mono ?_
  rintro e w1 ⟨la, lc, R, rfl, h1, h2, hs, hb⟩
  have S1 := Lib.hid hs
  have B1 := Lib.hid hb
  clear hs hb
  go_wp2
  go_ret
  exact ⟨la, lc, R, rfl, h1, h2, S1.out, B1.out⟩
end Go.Proofs.Ytpnaciamnigbnaa
namespace Go.Proofs.Ytpnaciamnigbnaa
open Go.RowKit

/-- A sheet in a block of its own, as the box of a parameter. -/
def BoxAt (w : World) (b : Nat) (s : Sh) : Prop :=
  w.cell? ⟨b, 0, none⟩ = some (.int .i64 s.id) ∧ w.cell? ⟨b, 1, none⟩ = some (.int .i64 s.row) ∧ w.cell? ⟨b, 2, none⟩ = some (.int .i64 s.col) ∧ w.cell? ⟨b, 3, none⟩ = some (.int .i64 s.scale) ∧ w.cell? ⟨b, 4, none⟩ = some (.int .i64 s.year)
theorem boxAt_new (w : World) (t : TypeId) (s : Sh) (B : Nat) (hB : w.heap.size = B) : BoxAt (w.alloc (.cells #[.int .i64 s.id, .int .i64 s.row, .int .i64 s.col, .int .i64 s.scale, .int .i64 s.year] t)) B s := by
  subst hB
  refine ⟨?_, ?_, ?_, ?_, ?_⟩ <;> simp [World.cell?_alloc_new]
theorem BoxAt.lt {w : World} {b : Nat} {s : Sh} (h : BoxAt w b s) : b < w.heap.size := by
  by_cases hb : b < w.heap.size
  · exact hb
  · exfalso
    have := h.1
    rw [show w.cell? ⟨b, 0, none⟩ = none from by simp [World.cell?, Array.getElem?_eq_none (Nat.le_of_not_lt hb)]] at this
    cases this
theorem BoxAt.below {w w' : World} {b : Nat} {s : Sh} (h : BoxAt w b s) (hb : Below w.heap.size w w') : BoxAt w' b s :=
  ⟨(hb.cell (p := ⟨b, 0, none⟩) h.lt).trans h.1, (hb.cell (p := ⟨b, 1, none⟩) h.lt).trans h.2.1, (hb.cell (p := ⟨b, 2, none⟩) h.lt).trans h.2.2.1, (hb.cell (p := ⟨b, 3, none⟩) h.lt).trans h.2.2.2.1, (hb.cell (p := ⟨b, 4, none⟩) h.lt).trans h.2.2.2.2⟩
end Go.Proofs.Ytpnaciamnigbnaa
namespace Go.Proofs.Ytpnaciamnigbnaa
open Go.RowKit

/-- A row of a relief, as the model asks. -/
def rowM (D : List VIntS) (r : VIntS) : Bool := decide (r.length = colsN D) && (inB (r.length : Int) 1 8 && r.all (fun z => inB z 0 9999))
theorem rlB_model (D : List VIntS) : rlB D = (inB (D.length : Int) 1 8 && D.all (rowM D)) := by
  rw [rlB_rows]
  cases hl : inB (D.length : Int) 1 8
  · rfl
  · rw [Bool.true_and, Bool.true_and]
    have h1 := (inB_iff.1 hl).1
    cases D with
    | nil => simp at h1
    | cons x l =>
      have hc : colsN (x :: l) = x.length := rfl
      rw [hc, Bool.eq_iff_iff]
      simp only [Bool.and_eq_true, List.all_eq_true, rowB, rowM, decide_eq_true_eq, hc]
      constructor
      · rintro ⟨h2, h3⟩ r hr
        obtain ⟨h4, h5⟩ := h3 r hr
        exact ⟨h4, by rw [h4]; exact h2, h5⟩
      · intro h
        refine ⟨?_, fun r hr => ⟨(h r hr).1, (h r hr).2.2⟩⟩
        exact (h x (by simp)).2.1
set_option maxHeartbeats 12800000 in
set_option maxRecDepth 100000 in
theorem l9Good_any (a : Option Addr) (len cap : Nat) (D : List VIntS) (w : World) (h : IsIntSS w a len cap D) :
    Calls Try.prog 85 #[.slice a len cap] w fun e w' => e = .returned (.bool (rlB D)) ∧ Below w.heap.size w w' := by
  have hm := h.2.2.1
  have hcl := h.2.1
  unfold maxLen at hm
  obtain rfl := h.1
  have RB := Lib.hid (rlB_model D)
  have S0 := Lib.hid h
  clear h
  obtain ⟨q1, e1⟩ : ∃ q, inB (D.length : Int) 1 8 = q := ⟨_, rfl⟩
  have E1 := Lib.hid e1
  clear e1
  go_enter Try.func85, Try.ntmps85
  go_wp2_with fail
  refine (l1In_any _ _ _ _).mono ?_
  rintro e w' ⟨rfl, rfl⟩
  rw [E1.out]
  cases q1
  · have F := Lib.hid (show rlB D = false from by rw [RB.out, E1.out]; rfl)
    go_wp2
    go_ret
    exact ⟨ret_bool F.out.symm, Below.refl _ _⟩
  have hl := inB_iff.1 E1.out
  obtain ⟨r0, hr0⟩ : ∃ r0, D[0]? = some r0 := ⟨D[0]'(by omega), List.getElem?_eq_getElem _⟩
  have HC := Lib.hid (show colsN D = r0.length from by
    unfold colsN
    cases D with
    | nil => simp at hr0
    | cons x l => simp at hr0; subst hr0; rfl)
  have R0 := Lib.hid hr0
  have RB2 := Lib.hid (show rlB D = D.all (rowM D) from by rw [RB.out, E1.out]; rfl)
  have z0 : (0 : Int) < (D.length : Int) := by omega
  clear hr0
  go_wp2
  go_loopw [3] (fun i wr => ∃ k : Nat, k ≤ D.length ∧ i = .int .i64 k ∧ (D.take k).all (rowM D) = true ∧ Below w.heap.size w wr) (fun i _ => D.length - (intOf i).toNat)
  case atStart => exact ⟨0, Nat.zero_le _, rfl, rfl, Below.refl _ _⟩
  case round =>
    obtain ⟨k, hk, rfl, hall, hbel⟩ := hrel
    have H := Lib.hid hall
    have B := Lib.hid hbel
    clear hall
    by_cases hlt : k < D.length
    · obtain ⟨x, hx⟩ : ∃ x, D[k]? = some x := ⟨D[k]'hlt, List.getElem?_eq_getElem _⟩
      obtain ⟨b, o, rfl, hb, hat⟩ := (S0.out.below hbel).at (by omega)
      obtain ⟨hdx, d0, d1⟩ := hat k x hx
      obtain ⟨hd0, f0, f1⟩ := hat 0 r0 R0.out
      have fn := f1.1
      have dn := d1.1
      obtain ⟨ha1, hn1, hc1⟩ := hdx
      obtain ⟨ha2, hn2, hc2⟩ := hd0
      simp only [Nat.add_zero] at f0 fn dn d0 d1
      subst fn
      subst dn
      have D0 := Lib.hid d0
      have D1 := Lib.hid d1
      have X := Lib.hid hx
      have i0 : (0 : Int) ≤ (k : Int) := by omega
      have i1 : (k : Int) < (D.length : Int) := by omega
      have k0 := cell_regrown d0
      have k1 := cell_regrown f0
      clear hat f1 d1 hx hbel d0 f0
      by_cases hq : x.length = r0.length
      · have c1 : ((x.length : Int) == (r0.length : Int)) = true := by simp [hq]
        have c2 : ((x.length : Int) != (r0.length : Int)) = false := by simp [hq]
        have HQ := Lib.hid hq
        obtain ⟨q2, e2⟩ : ∃ q, inB (x.length : Int) 1 8 = q := ⟨_, rfl⟩
        have E2 := Lib.hid e2
        have cL := below_at (W := wr) (v := .bool q2) (fun W' _ => by rw [← e2]; exact same_below (l1In_any (x.length : Int) 1 8 W'))
        have RX := Lib.hid (show rowM D x = (q2 && x.all (fun z => inB z 0 9999)) from by unfold rowM; rw [HC.out, hq, ← e2, hq]; simp)
        clear e2 hq
        go_wp2
        refine wp_region_quiet_below (by kernel_rfl) (by kernel_rfl) ?_
        repeat (first | go_big_quiet_step (with_reducible exact cL _ _) | quiet_step (with_reducible exact cL _ _))
        refine wpQuiet_nil ?_
        intro W2 hw2
        have bw := below_of_re hw2
        have B2 := Lib.hid (Below.then' B.out bw)
        have D2 := Lib.hid (cell_stay D0.out bw)
        clear hw2 cL k0 k1 bw
        cases q2
        · have F := Lib.hid (show rlB D = false from by rw [RB2.out]; exact all_bad X.out (by rw [RX.out]; rfl))
          go_wp2
          go_ret
          exact ⟨ret_bool F.out.symm, B2.out⟩
        have RX2 := Lib.hid (show rowM D x = x.all (fun z => inB z 0 9999) from by rw [RX.out]; rfl)
        have hx8 := inB_iff.1 E2.out
        simp only [Bool.not_true]
        go_wp2
        go_loopw [4] (fun i wr => ∃ j : Nat, j ≤ x.length ∧ i = .int .i64 j ∧ (x.take j).all (fun z => inB z 0 9999) = true ∧ Below w.heap.size w wr) (fun i _ => x.length - (intOf i).toNat)
        case atStart => exact ⟨0, Nat.zero_le _, rfl, rfl, B2.out⟩
        case round =>
          obtain ⟨j, hj, rfl, hall2, hbel2⟩ := hrel
          have H2 := Lib.hid hall2
          have B3 := Lib.hid hbel2
          clear hall2
          obtain ⟨b', o', e', hb', hat'⟩ := (S0.out.below hbel2).at (by omega)
          simp only [Option.some.injEq, Addr.mk.injEq, and_true] at e'
          obtain ⟨rfl, rfl⟩ := e'
          obtain ⟨hdx, d0, d1⟩ := hat' k x X.out
          have dn := d1.1
          obtain ⟨ha3, hn3, hc3⟩ := hdx
          simp only [] at dn d0 d1
          subst dn
          by_cases hlj : j < x.length
          · obtain ⟨z, hz⟩ : ∃ z, x[j]? = some z := ⟨x[j]'hlj, List.getElem?_eq_getElem _⟩
            obtain ⟨bz, oz, rfl, _, hatz⟩ := d1.at (by omega)
            have cz := hatz j z hz
            have Z := Lib.hid hz
            have j0 : (0 : Int) ≤ (j : Int) := by omega
            have j1 : (j : Int) < (x.length : Int) := by omega
            obtain ⟨q3, e3⟩ : ∃ q, inB z 0 9999 = q := ⟨_, rfl⟩
            have E3 := Lib.hid e3
            clear hat' hatz d1 hz e3 hbel2
            go_wp2_with fail
            refine (l1In_any _ _ _ _).mono ?_
            rintro e w' ⟨rfl, rfl⟩
            rw [E3.out]
            cases q3
            · have F := Lib.hid (show rlB D = false from by rw [RB2.out]; exact all_bad X.out (by rw [RX2.out]; exact all_bad Z.out E3.out))
              go_wp2
              go_ret
              exact ⟨ret_bool F.out.symm, B3.out⟩
            · go_wp2
              go_roundw
              case rel => exact ⟨j + 1, by omega, by go_num, allB_more H2.out Z.out E3.out, B3.out⟩
              case measure => simp [intOf]; omega
          · obtain rfl : j = x.length := by omega
            have AL := Lib.hid (show rowM D x = true from by
              rw [RX2.out]
              have := H2.out
              rwa [List.take_of_length_le (Nat.le_refl _)] at this)
            clear hat' d1 hbel2
            go_wp2
            go_roundw
            case rel => exact ⟨k + 1, by omega, by go_num, allB_more H.out X.out AL.out, B3.out⟩
            case measure => simp [intOf]; omega
      · have c1 : ((x.length : Int) == (r0.length : Int)) = false := by simp; omega
        have c2 : ((x.length : Int) != (r0.length : Int)) = true := by simp; omega
        have F := Lib.hid (show rlB D = false from by rw [RB2.out]; exact all_bad X.out (by unfold rowM; rw [HC.out, decide_eq_false hq]; rfl))
        clear hq
        go_wp2
        refine wp_region_quiet_below (by kernel_rfl) (by kernel_rfl) ?_
        repeat (first | go_big_quiet_step (fail) | quiet_step (fail))
        refine wpQuiet_nil ?_
        intro W2 hw2
        have B2 := Lib.hid (Below.then' B.out (below_of_re hw2))
        clear hw2 k0 k1
        go_wp2
        go_ret
        exact ⟨ret_bool F.out.symm, B2.out⟩
    · obtain rfl : k = D.length := by omega
      have F := Lib.hid (show rlB D = true from by
        rw [RB2.out]
        have := H.out
        rwa [List.take_of_length_le (Nat.le_refl _)] at this)
      clear hbel
      go_wp2
      go_ret
      exact ⟨ret_bool F.out.symm, B.out⟩
theorem specIsRelief_any (a : Option Addr) (len cap : Nat) (D : List VIntS) (w : World) (h : IsIntSS w a len cap D) (_ : condIntS D) :
    Calls Try.prog 22 #[.slice a len cap] w (IsRelief_Post D w) := by
  have S := Lib.hid h
  clear h
  go_enter Try.func22, Try.ntmps22
  go_wp2_with fail
  refine (l9Good_any _ _ _ D _ S.out).mono ?_
  rintro e w1 ⟨rfl, hb⟩
  have B1 := Lib.hid hb
  clear hb
  go_wp2
  go_ret
  exact ⟨rfl, B1.out⟩
set_option maxHeartbeats 6400000 in
set_option maxRecDepth 100000 in
theorem l9Square_any (a : Option Addr) (len cap : Nat) (D : List VIntS) (r c : Int) (w : World) (h : IsIntSS w a len cap D) :
    Calls Try.prog 82 #[.slice a len cap, .int .i64 r, .int .i64 c] w fun e w' => e = .returned (.bool (hasB D r c)) ∧ Below w.heap.size w w' := by
  have L := Lib.hid h.1
  have S := Lib.hid h
  clear h
  obtain ⟨q, hq⟩ : ∃ q, rlB D = q := ⟨_, rfl⟩
  have Q := Lib.hid hq
  have HB := Lib.hid (show hasB D r c = (q && (decide (0 ≤ r) && (decide (r < (D.length : Int)) && (decide (0 ≤ c) && decide (c < (colsN D : Int)))))) from by unfold hasB; rw [hq])
  clear hq
  go_enter Try.func82, Try.ntmps82
  go_wp2_with fail
  refine (l9Good_any _ _ _ D _ S.out).mono ?_
  rintro e w1 ⟨rfl, hb⟩
  rw [Q.out]
  have B1 := Lib.hid hb
  have S1 := Lib.hid (S.out.below hb)
  clear hb
  cases q
  · go_wp2
    go_ret
    exact ⟨ret_bool (by rw [HB.out]; rfl), B1.out⟩
  have hD := rlB_iff.1 Q.out
  obtain ⟨b, o, b', o', c', rfl, hb, g0⟩ := relief_row0 S1.out hD
  have z0 : (0 : Int) < (len : Int) := by have := L.out; have := hD.m1; omega
  have hlD : (len : Int) = (D.length : Int) := by rw [L.out]
  have LE := Lib.hid hlD
  clear hD hlD
  by_cases h1 : 0 ≤ r
  · have d1 : decide (0 ≤ r) = true := decide_eq_true h1
    by_cases h2 : r < (len : Int)
    · have d2 : decide (r < (len : Int)) = true := decide_eq_true h2
      by_cases h3 : 0 ≤ c
      · have d3 : decide (0 ≤ c) = true := decide_eq_true h3
        have F := Lib.hid (show hasB D r c = decide (c < (colsN D : Int)) from by rw [HB.out, d1, d3, decide_eq_true (show r < (D.length : Int) by rw [← LE.out]; exact h2)]; rfl)
        go_wp2
        go_ret
        exact ⟨ret_bool (by rw [F.out]), B1.out⟩
      · have d3 : decide (0 ≤ c) = false := decide_eq_false h3
        have F := Lib.hid (show hasB D r c = false from by rw [HB.out, d3]; simp)
        go_wp2
        go_ret
        exact ⟨ret_bool (by rw [F.out]), B1.out⟩
    · have d2 : decide (r < (len : Int)) = false := decide_eq_false h2
      have F := Lib.hid (show hasB D r c = false from by rw [HB.out, decide_eq_false (show ¬ r < (D.length : Int) by rw [← LE.out]; exact h2)]; simp)
      go_wp2
      go_ret
      exact ⟨ret_bool (by rw [F.out]), B1.out⟩
  · have d1 : decide (0 ≤ r) = false := decide_eq_false h1
    have F := Lib.hid (show hasB D r c = false from by rw [HB.out, d1]; simp)
    go_wp2
    go_ret
    exact ⟨ret_bool (by rw [F.out]), B1.out⟩
end Go.Proofs.Ytpnaciamnigbnaa
