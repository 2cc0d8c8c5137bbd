/- Texts in one: Rd3, Own, Sw, ReaderBy, ReaderL, Wh, ReaderId, Ri2. -/
import Derived.Test.YtidaoijpbdljbabGreatDoorM2
import Derived.Test.YtidaoijpbdljbabGreatDoorM1
import Derived.Lib.SliceRun
namespace Go.Proofs.YtidaoijpbdljbabGreatDoor
open Go.RowKit

theorem rd_sized_small {xs : List VReader} (h : ∀ s ∈ xs, s.sized) : ∀ s ∈ xs, s.small := fun s hs => sized_smallReader s (h s hs)
theorem l3Cents_any (x : Int) (w : World) :
    Calls Tryz.prog 43 #[.int .i64 x] w fun e w' => e = .returned (.bool (centsB x)) ∧ w = w' := by
  go_enter Tryz.func43, Tryz.ntmps43
  go_wp2_with fail
  refine (l1In_any _ _ _ _).mono ?_
  rintro e w' ⟨rfl, rfl⟩
  go_wp2
  go_ret
  exact ⟨rfl, rfl⟩
/-- A list of readers and whether it is valid. -/
def RdPair (p : List VReader × Bool) (w : World) (e : Ending) (w' : World) : Prop := ∃ v, e = .returned (.tuple #[v, .bool p.2]) ∧ w'.ownsRow w.heap.size 25 5 v p.1.length (cellsReader p.1) ∧ Below w.heap.size w w'
theorem made_own (w : World) (base : Nat) (h : base ≤ w.heap.size) : (w.alloc (.cells #[] 25)).ownsRow base 25 5 (.slice (some ⟨w.heap.size, 0, none⟩) 0 0) ([] : List VReader).length (cellsReader []) :=
  World.ownsRow_made (base := base) (e := 25) (size := 5) w #[] 0 h (Nat.zero_le _) rfl
theorem readers_one (xs : List VReader) : ∀ u ∈ cellsReader xs, u.oneCell' = true := by
  intro u hu
  obtain ⟨s, _, hs⟩ := List.mem_flatMap.1 hu
  exact s.vals_one u hs

set_option maxHeartbeats 3200000 in
set_option maxRecDepth 100000 in
theorem l3With_any (a : Option Addr) (len cap : Nat) (xs : List VReader) (i : Nat) (r : VReader) (w : World) (h : IsReaderS w a len cap xs) (hi' : i < xs.length) (hx : xs.length ≤ 1048576) (hz : ∀ s ∈ xs, s.small) (hr : r.small) :
    Calls Tryz.prog 44 #[.slice a len cap, .int .i64 (i : Int), .agg #[.int .i64 r.Id, .string r.Name, .int .i64 r.Joined, .int .i64 r.Class, .int .i64 r.Fines]] w (RdPair (rdWith xs i r) w) := by
  obtain rfl := h.1
  have hm := h.2.2.1
  have hcl := h.2.1
  unfold maxLen at hm
  obtain ⟨i0, hi, hz0, hz1, hz2⟩ := info_parts infoReader
  have B0 := Lib.hid (bel_al2 w (.cells #[.int .i64 r.Id, .string r.Name, .int .i64 r.Joined, .int .i64 r.Class, .int .i64 r.Fines] 25) (.cells #[] 25))
  have X0 := Lib.hid (HBReader.new w r _ rfl)
  have O0 := made_own (w.alloc (.cells #[.int .i64 r.Id, .string r.Name, .int .i64 r.Joined, .int .i64 r.Class, .int .i64 r.Fines] 25)) (w.heap.size + 1) (by rw [size_al]; omega)
  rw [size_al] at O0
  have SRC := srcReader (h.below B0.out)
  have hsz : ((w.alloc (.cells #[.int .i64 r.Id, .string r.Name, .int .i64 r.Joined, .int .i64 r.Class, .int .i64 r.Fines] 25)).alloc (.cells #[] 25)).heap.size = w.heap.size + 2 := by rw [size_al, size_al]
  have SZ := Lib.hid hsz
  have SM := Lib.hid (show ∀ s ∈ xs.set i r, s.small from fun s hs => (List.mem_or_eq_of_mem_set hs).elim (hz s) (fun e => e ▸ hr))
  clear h hsz hz hr
  go_enter Tryz.func44, Tryz.ntmps44
  go_wp2_with (at_builtin; refine wpList_append_list rfl _ _ 33 rfl (w.heap.size + 1) 25 i0 (.agg #[.int .i64 0, .string ByteArray.empty, .int .i64 0, .int .i64 0, .int .i64 0]) 5 48 Tryz.underlying33 hi hz0 hz1 hz2 rfl (by decide) _ _ _ rfl O0 a xs.length cap (cellsReader xs) rfl SRC (readers_one xs) (by simp; unfold maxLen; omega) (by simp; omega) (by rw [SZ.out]; omega) ?_; intro v' w1 hown1 hgrow1; have X1 := (X0.out.alloc (.cells #[] 25)).grown hgrow1 (own_ne (by omega)); obtain ⟨p0, p1, p2, p3, p4⟩ := X1.cells; have BG := Lib.hid (B0.out.grown hgrow1 (by rw [SZ.out]; omega) (fun k e => by have := own_is e; omega)); rw [List.length_nil, Nat.zero_add, show cellsReader [] ++ cellsReader xs = cellsReader xs from rfl] at hown1; have hlt1 := hown1.lt; have O1 := Lib.hid hown1; obtain ⟨g, cap1, rfl, hg, hn, hcap⟩ := own_some hown1 (by omega); have f0 := O1.out.frozenAt (i * 5); have f1 := O1.out.frozenAt (i * 5 + 1); have f2 := O1.out.frozenAt (i * 5 + 2); have f3 := O1.out.frozenAt (i * 5 + 3); have f4 := O1.out.frozenAt (i * 5 + 4); obtain ⟨u0, d0⟩ := own_cell O1.out (i * 5) (by rw [cellsReader_len]; omega); obtain ⟨u1, d1⟩ := own_cell O1.out (i * 5 + 1) (by rw [cellsReader_len]; omega); obtain ⟨u2, d2⟩ := own_cell O1.out (i * 5 + 2) (by rw [cellsReader_len]; omega); obtain ⟨u3, d3⟩ := own_cell O1.out (i * 5 + 3) (by rw [cellsReader_len]; omega); obtain ⟨u4, d4⟩ := own_cell O1.out (i * 5 + 4) (by rw [cellsReader_len]; omega); have i1 : (i : Int) < (xs.length : Int) := (by omega); have i2 : (0 : Int) ≤ (i : Int) := (by omega); clear hgrow1 hown1 X1)
  have h5 := own_setReader O1.out hi' r
  have B5 := Lib.hid (BG.out.grown h5.2 BG.out.size (fun k e => by cases e; omega))
  have hown5 := h5.1
  rw [show xs.length = (xs.set i r).length from List.length_set.symm] at hown5
  obtain ⟨a5, c5, e5, his, _⟩ := isReaderS_own hown5 SM.out
  cases e5
  have O5 := Lib.hid h5.1
  clear h5 hown5 f0 f1 f2 f3 f4 d0 d1 d2 d3 d4 p0 p1 p2 p3 p4
  rw [List.length_set] at his
  refine (l3Good_any _ _ _ (xs.set i r) _ his).mono ?_
  rintro e w2 ⟨rfl, hb⟩
  have O6 := Lib.hid (ownsRow_below O5.out hb)
  have B6 := Lib.hid (Below.then' B5.out hb)
  clear hb his
  obtain ⟨q, hq⟩ : ∃ q, areRd (xs.set i r) = q := ⟨_, rfl⟩
  rw [hq]
  have Q := Lib.hid hq
  clear hq
  cases q
  · have E := Lib.hid (show rdWith xs i r = ([], false) from by unfold rdWith; rw [Q.out]; rfl)
    have O7 := made_own w2 w.heap.size (by have := B6.out.size; omega)
    have O7 := Lib.hid O7
    go_wp2
    go_ret2
    refine ⟨.slice (some ⟨w2.heap.size, 0, none⟩) 0 0, by rw [E.out]; rfl, by rw [E.out]; exact O7.out, Below.then' B6.out (bel_al1 _ _)⟩
  · have E := Lib.hid (show rdWith xs i r = (xs.set i r, true) from by unfold rdWith; rw [Q.out]; rfl)
    go_wp2
    go_ret2
    refine ⟨.slice (some ⟨g, 0, none⟩) xs.length cap1, by rw [E.out]; rfl, ?_, B6.out⟩
    rw [E.out]
    show World.ownsRow _ _ _ _ _ (xs.set i r).length _
    rw [List.length_set]
    exact ownsRow_base O6.out (by omega)
end Go.Proofs.YtidaoijpbdljbabGreatDoor
namespace Go.Proofs.YtidaoijpbdljbabGreatDoor
open Go.RowKit

/-- From w to w' no block outside lo .. hi has turned. -/
structure Turned (lo hi : Nat) (w w' : World) : Prop where
  os : w'.os = w.os
  tape : w'.tape = w.tape
  output : w'.output = w.output
  size : w.heap.size ≤ w'.heap.size
  block : ∀ k, k < w.heap.size → (k < lo ∨ hi ≤ k) → w'.heap[k]? = w.heap[k]?
theorem Turned.refl (lo hi : Nat) (w : World) : Turned lo hi w w := ⟨rfl, rfl, rfl, Nat.le_refl _, fun _ _ _ => rfl⟩
theorem Turned.trans {lo hi : Nat} {a b c : World} (h : Turned lo hi a b) (k : Turned lo hi b c) : Turned lo hi a c :=
  ⟨k.os.trans h.os, k.tape.trans h.tape, k.output.trans h.output, Nat.le_trans h.size k.size, fun j hj ho => (k.block j (Nat.lt_of_lt_of_le hj h.size) ho).trans (h.block j hj ho)⟩
theorem Turned.of_below {lo hi : Nat} {w w' : World} (h : Below w.heap.size w w') : Turned lo hi w w' := ⟨h.os, h.tape, h.output, h.size, fun k hk _ => h.block k hk⟩
theorem Turned.of_grown {lo hi : Nat} {w w' : World} {row : Option Nat} (h : w.grownBy w' row) (hr : ∀ k, row = some k → lo ≤ k ∧ k < hi) : Turned lo hi w w' :=
  ⟨h.os, h.tape, h.output, h.size, fun k hk ho => h.block k hk (fun e => by have := hr k e.symm; omega)⟩
theorem Turned.below {lo hi B : Nat} {w0 w w' : World} (b : Below B w0 w) (h : Turned lo hi w w') (hB : B ≤ lo) (hw : B ≤ w.heap.size) : Below B w0 w' :=
  b.trans ⟨h.os, h.tape, h.output, h.size, fun k hk => h.block k (by omega) (.inl (by omega))⟩
theorem Turned.mono {lo hi lo' hi' : Nat} {w w' : World} (h : Turned lo hi w w') (h1 : lo' ≤ lo) (h2 : hi ≤ hi') : Turned lo' hi' w w' := ⟨h.os, h.tape, h.output, h.size, fun k hk ho => h.block k hk (by omega)⟩
theorem Turned.setCell {lo hi : Nat} {a w : World} (h : Turned lo hi a w) {p : Addr} (h1 : lo ≤ p.block) (h2 : p.block < hi) (u : Value) : Turned lo hi a (w.setCell p u) :=
  h.trans ⟨rfl, rfl, rfl, by simp [World.setCell], fun k _ ho => Below.heap_setCell _ _ _ _ (by omega)⟩
theorem Turned.alloc {lo hi : Nat} {a w : World} (h : Turned lo hi a w) (o : Obj) : Turned lo hi a (w.alloc o) := h.trans (Turned.of_below (bel_al1 w o))

/-- A row of the call's own that lies in lo .. hi. -/
def OwnIn (lo hi : Nat) (w : World) (e : TypeId) (size : Nat) (v : Value) (n : Nat) (L : List Value) : Prop := w.ownsRow lo e size v n L ∧ ∀ b, v.ownBlock = some b → b < hi
section
variable {lo hi : Nat} {w w' : World} {e : TypeId} {size n : Nat} {v : Value} {L : List Value}
theorem OwnIn.row (h : OwnIn lo hi w e size v n L) : w.ownsRow lo e size v n L := h.1
theorem OwnIn.lt (h : OwnIn lo hi w e size v n L) {b : Nat} (hb : v.ownBlock = some b) : lo ≤ b ∧ b < hi ∧ b < w.heap.size := ⟨(h.1.lt b hb).1, h.2 b hb, (h.1.lt b hb).2⟩
theorem OwnIn.keep (h : OwnIn lo hi w e size v n L) (hk : ∀ b, v.ownBlock = some b → w'.heap[b]? = w.heap[b]?) : OwnIn lo hi w' e size v n L := by
  refine ⟨⟨h.1.1, ?_⟩, h.2⟩
  rcases h.1.2 with h0 | ⟨g, cap, cur, rfl, hg, hh, r⟩
  · exact .inl h0
  · exact .inr ⟨g, cap, cur, rfl, hg, (hk g rfl).trans hh, r⟩
theorem OwnIn.turned (h : OwnIn lo hi w e size v n L) {lo' hi' : Nat} (t : Turned lo' hi' w w') (hd : hi ≤ lo' ∨ hi' ≤ lo) : OwnIn lo hi w' e size v n L :=
  h.keep fun b hb => t.block b (h.lt hb).2.2 (by have := h.lt hb; omega)
theorem OwnIn.below (h : OwnIn lo hi w e size v n L) (hb : Below w.heap.size w w') : OwnIn lo hi w' e size v n L := h.keep fun b hv => hb.block b (h.lt hv).2.2
theorem OwnIn.mono (h : OwnIn lo hi w e size v n L) {lo' hi' : Nat} (h1 : lo' ≤ lo) (h2 : hi ≤ hi') : OwnIn lo' hi' w e size v n L :=
  ⟨ownsRow_base h.1 h1, fun b hb => Nat.lt_of_lt_of_le (h.2 b hb) h2⟩
theorem OwnIn.of_row {base : Nat} (h : w.ownsRow base e size v n L) (hl : lo ≤ base) (hh : w.heap.size ≤ hi) : OwnIn lo hi w e size v n L :=
  ⟨ownsRow_base h hl, fun b hb => Nat.lt_of_lt_of_le (h.lt b hb).2 hh⟩
end
theorem isInts_ownIn {lo hi : Nat} {w : World} {v : Value} {xs : List Int} (h : OwnIn lo hi w 3 1 v xs.length (intCells xs)) : ∃ a cap, v = .slice a xs.length cap ∧ IsInts w a xs.length cap xs := by
  obtain ⟨a, c, e, hi, _⟩ := isInts_own h.1
  exact ⟨a, c, e, hi⟩

/-- A slice's three parts. -/
structure Hd where
  a : Option Addr
  n : Nat
  c : Nat
def Hd.v (h : Hd) : Value := .slice h.a h.n h.c
def Hd.blk (h : Hd) : Option Nat := h.v.ownBlock
/-- A row of integers of the call's own, by its parts. -/
def HInts (lo hi : Nat) (w : World) (h : Hd) (zs : List Int) : Prop := OwnIn lo hi w 3 1 (.slice h.a h.n h.c) zs.length (intCells zs)
theorem HInts.is {lo hi : Nat} {w : World} {h : Hd} {zs : List Int} (H : HInts lo hi w h zs) : IsInts w h.a h.n h.c zs ∧ h.n = zs.length := by
  obtain ⟨a, c, e, hi⟩ := isInts_ownIn H
  simp only [Value.slice.injEq] at e
  obtain ⟨rfl, e2, rfl⟩ := e
  rw [e2]; exact ⟨hi, rfl⟩
end Go.Proofs.YtidaoijpbdljbabGreatDoor
namespace Go.Proofs.YtidaoijpbdljbabGreatDoor
open Go.RowKit
theorem el_at {α : Type} {xs : List α} {len k : Nat} (hl : Hid (len = xs.length)) (hk : k < len) : ∃ s, xs[k]? = some s := ⟨xs[k]'(by have := hl.out; omega), List.getElem?_eq_getElem _⟩
theorem all_more {P : Nat → Prop} {k : Nat} (h : ∀ j, j < k → P j) (h1 : P k) : ∀ j, j < k + 1 → P j := by
  intro j hj
  by_cases e : j = k
  · subst e; exact h1
  · exact h j (by omega)
theorem up_ways {α : Type} {ok : α → Bool} {id : α → Int} {xs : List α} {k : Nat} {s : α} (hs : xs[k]? = some s) :
    (ok s = false ∧ upStep ok id xs k = false) ∨ (ok s = true ∧ k = 0 ∧ upStep ok id xs k = true) ∨ (ok s = true ∧ ∃ j p, k = j + 1 ∧ xs[j]? = some p ∧ ((¬ id s ≤ id p ∧ upStep ok id xs k = true) ∨ (id s ≤ id p ∧ upStep ok id xs k = false))) := by
  match k, hs with
  | 0, hs =>
    rw [upStep_zero hs]
    cases h : ok s
    · exact .inl ⟨rfl, rfl⟩
    · exact .inr (.inl ⟨rfl, rfl, rfl⟩)
  | j + 1, hs =>
    have hl := (List.getElem?_eq_some_iff.1 hs).1
    have hp : xs[j]? = some xs[j] := List.getElem?_eq_getElem (by omega)
    rw [upStep_succ hp hs]
    cases h : ok s
    · exact .inl ⟨rfl, rfl⟩
    · refine .inr (.inr ⟨rfl, j, xs[j], rfl, hp, ?_⟩)
      by_cases h2 : id s ≤ id xs[j]
      · exact .inr ⟨h2, by simp; omega⟩
      · exact .inl ⟨h2, by simp; omega⟩
/-- A call of a function value enters the function. -/
theorem enters_fn {P : Program} {K : FuncId} {fn : Func} (hf : P.funcs[K]? = some fn) (h1 : (fn.name == "runtime.NumGoroutine") = false) (h2 : fn.body.isNone = false) : ∀ args W, (callFunc K args).run P W = .ok (.enter K args) W := by
  intro args W
  have h1' : ¬ fn.name = "runtime.NumGoroutine" := by simpa using h1
  have h2' : ¬ fn.body = none := by intro h; rw [h] at h2; cases h2
  simp [callFunc, go_sem, hf, h1', h2']
theorem cell_box (w : World) (v : Value) (t : TypeId) (B : Nat) (hB : w.heap.size = B) : (w.alloc (.cells #[v] t)).cell? ⟨B, 0, none⟩ = some v := by
  subst hB
  simp [World.cell?_alloc_new]
theorem cell_stay {w w' : World} {b o : Nat} {v : Value} (h : w.cell? ⟨b, o, none⟩ = some v) (hb : Below w.heap.size w w') : w'.cell? ⟨b, o, none⟩ = some v := (hb.cell (p := ⟨b, o, none⟩) (World.lt_of_cell h)).trans h
end Go.Proofs.YtidaoijpbdljbabGreatDoor
namespace Go.Proofs.YtidaoijpbdljbabGreatDoor
open Go.RowKit

set_option maxHeartbeats 12800000 in
set_option maxRecDepth 100000 in
theorem byReader_any (K1 K2 : FuncId) (ok : VReader → Bool) (id : VReader → Int) (limit : Int) (a : Option Addr) (len cap : Nat) (xs : List VReader) (w : World) (h : IsReaderS w a len cap xs)
    (hc1 : ∀ args W, (callFunc K1 args).run Tryz.prog W = .ok (.enter K1 args) W) (hc2 : ∀ args W, (callFunc K2 args).run Tryz.prog W = .ok (.enter K2 args) W)
    (h1 : ∀ (W : World) (s : VReader), s ∈ xs → s.small → Calls Tryz.prog K1 #[.agg #[.int .i64 s.Id, .string s.Name, .int .i64 s.Joined, .int .i64 s.Class, .int .i64 s.Fines]] W fun e w' => e = .returned (.bool (ok s)) ∧ Below W.heap.size W w')
    (h2 : ∀ (W : World) (s : VReader), Calls Tryz.prog K2 #[.agg #[.int .i64 s.Id, .string s.Name, .int .i64 s.Joined, .int .i64 s.Class, .int .i64 s.Fines]] W fun e w' => e = .returned (.int .i64 (id s)) ∧ Below W.heap.size W w') :
    Calls Tryz.prog 68 #[.slice a len cap, .int .i64 limit, .func (.func K1) #[] #[], .func (.func K2) #[] #[]] w fun e w' => e = .returned (.bool (upB ok id xs && decide ((xs.length : Int) ≤ limit))) ∧ Below w.heap.size w w' := by
  have hm := h.2.2.1
  have hcl := h.2.1
  unfold maxLen at hm
  have S := Lib.hid h
  have L := Lib.hid h.1
  have F1 := Lib.hid h1
  have F2 := Lib.hid h2
  clear h h1 h2
  by_cases hl : limit < (len : Int)
  · go_enter Tryz.func68, Tryz.ntmps68
    go_wp2
    go_ret
    exact ⟨ret_bool (by have e := L.out; rw [decide_eq_false (by omega)]; simp), Below.refl _ _⟩
  go_enter Tryz.func68, Tryz.ntmps68
  go_wp2
  go_loopw [17] (fun i wr => ∃ k : Nat, k ≤ len ∧ i = .int .i64 k ∧ Below w.heap.size w wr ∧ ∀ j, j < k → upStep ok id xs j = true) (fun i _ => len - (intOf i).toNat)
  case atStart => exact ⟨0, Nat.zero_le _, rfl, Below.refl _ _, by omega⟩
  case round =>
    obtain ⟨k, hk, rfl, hbel, hall⟩ := hrel
    have A := Lib.hid hall
    have B := Lib.hid hbel
    clear hall
    by_cases hlt : k < len
    · obtain ⟨s, hs⟩ := el_at L hlt
      obtain ⟨b, o, rfl, hb, hat⟩ := (S.out.below hbel).at (by omega)
      obtain ⟨c0, c1, c2, c3, c4, hsm⟩ := hat k s hs
      have SM := Lib.hid hsm
      clear hsm
      have AT := Lib.hid hat
      have K := Lib.hid hs
      clear hs hat hbel
      go_wp2
      refine wp_world (fun W => BoxReader W wr.heap.size s ∧ Below wr.heap.size wr W) ⟨BoxReader.new _ _ s _ rfl, bel_al1 _ _⟩ ?_
      rintro W ⟨hbox, hbw⟩
      have BW := Lib.hid hbw
      obtain ⟨e0, e1, e2, e3, e4⟩ := hbox
      clear c0 c1 c2 c3 c4 hbw
      have k0 := cell_regrown e0
      have k1 := cell_regrown e1
      have k2 := cell_regrown e2
      have k3 := cell_regrown e3
      have k4 := cell_regrown e4
      clear e0 e1 e2 e3 e4
      have hi0 : (0 : Int) ≤ (k : Int) := by omega
      have hi1 : (k : Int) < (len : Int) := by omega
      rcases up_ways (ok := ok) (id := id) K.out with ⟨h1, h2⟩ | ⟨h1, rfl, h2⟩ | ⟨h1, j, p, rfl, hp, h2⟩
      · have cQ := below_at (W := W) (fun W' hbW => h1 ▸ F1.out W' s (List.mem_of_getElem? K.out) SM.out)
        have Z := Lib.hid h2
        clear h1 h2
        refine wp_region_quiet_below (by kernel_rfl) (by kernel_rfl) ?_
        repeat (first | go_big_quiet_step (first | (with_reducible exact cQ _ _)) | quiet_step (first | (with_reducible exact cQ _ _)))
        refine wpQuiet_nil ?_
        intro W2 hw2
        have B2 := Lib.hid (Below.then' (Below.then' B.out BW.out) (below_of_re hw2))
        clear hw2 cQ k0 k1 k2 k3 k4
        go_wp2
        go_ret
        exact ⟨ret_bool (by rw [upB_bad Z.out (by have := L.out; omega)]; rfl), B2.out⟩
      · have cQ := below_at (W := W) (fun W' hbW => h1 ▸ F1.out W' s (List.mem_of_getElem? K.out) SM.out)
        have Z := Lib.hid h2
        clear h1 h2
        refine wp_region_quiet_below (by kernel_rfl) (by kernel_rfl) ?_
        repeat (first | go_big_quiet_step (first | (with_reducible exact cQ _ _)) | quiet_step (first | (with_reducible exact cQ _ _)))
        refine wpQuiet_nil ?_
        intro W2 hw2
        have B2 := Lib.hid (Below.then' (Below.then' B.out BW.out) (below_of_re hw2))
        clear hw2 cQ k0 k1 k2 k3 k4
        go_wp2
        go_roundw
        case rel => exact ⟨1, by omega, by go_num, B2.out, all_more A.out Z.out⟩
        case measure => simp [intOf]; omega
      · have cQ := below_at (W := W) (fun W' hbW => h1 ▸ F1.out W' s (List.mem_of_getElem? K.out) SM.out)
        obtain ⟨p0, p1, p2, p3, p4, _⟩ := (AT.out j p hp).below BW.out hb
        have q0 := cell_regrown p0
        have q1 := cell_regrown p1
        have q2 := cell_regrown p2
        have q3 := cell_regrown p3
        have q4 := cell_regrown p4
        clear p0 p1 p2 p3 p4
        obtain ⟨u, hu⟩ : ∃ u, id p = u := ⟨_, rfl⟩
        obtain ⟨v, hv⟩ : ∃ v, id s = v := ⟨_, rfl⟩
        rw [hu, hv] at h2
        have cP := below_at (W := W) (fun W' _ => hu ▸ F2.out W' p)
        have cS := below_at (W := W) (fun W' _ => hv ▸ F2.out W' s)
        have hp0 : (0 : Int) ≤ (j : Int) := by omega
        have hp1 : (j : Int) < (len : Int) := by omega
        clear h1 hp hu hv
        rcases h2 with ⟨h2, h3⟩ | ⟨h2, h3⟩
        · have Z := Lib.hid h3
          clear h3
          refine wp_region_quiet_below (by kernel_rfl) (by kernel_rfl) ?_
          repeat (first | go_big_quiet_step (first | (with_reducible exact cQ _ _) | (with_reducible exact cP _ _) | (with_reducible exact cS _ _)) | quiet_step (first | (with_reducible exact cQ _ _) | (with_reducible exact cP _ _) | (with_reducible exact cS _ _)))
          refine wpQuiet_nil ?_
          intro W2 hw2
          have B2 := Lib.hid (Below.then' (Below.then' B.out BW.out) (below_of_re hw2))
          clear hw2 cQ cP cS k0 k1 k2 k3 k4 q0 q1 q2 q3 q4
          go_wp2
          go_roundw
          case rel => exact ⟨j + 1 + 1, by omega, by go_num, B2.out, all_more A.out Z.out⟩
          case measure => simp [intOf]; omega
        · have Z := Lib.hid h3
          clear h3
          refine wp_region_quiet_below (by kernel_rfl) (by kernel_rfl) ?_
          repeat (first | go_big_quiet_step (first | (with_reducible exact cQ _ _) | (with_reducible exact cP _ _) | (with_reducible exact cS _ _)) | quiet_step (first | (with_reducible exact cQ _ _) | (with_reducible exact cP _ _) | (with_reducible exact cS _ _)))
          refine wpQuiet_nil ?_
          intro W2 hw2
          have B2 := Lib.hid (Below.then' (Below.then' B.out BW.out) (below_of_re hw2))
          clear hw2 cQ cP cS k0 k1 k2 k3 k4 q0 q1 q2 q3 q4
          go_wp2
          go_ret
          exact ⟨ret_bool (by rw [upB_bad Z.out (by have := L.out; omega)]; rfl), B2.out⟩
    · obtain rfl : k = len := by omega
      have U := Lib.hid (show (upB ok id xs && decide ((xs.length : Int) ≤ limit)) = true from by
        rw [upB_iff.2 (fun i hi => A.out i (by have := L.out; omega)), decide_eq_true (by have := L.out; omega)]; rfl)
      clear hbel
      go_wp2
      go_ret
      exact ⟨ret_bool U.out.symm, B.out⟩
end Go.Proofs.YtidaoijpbdljbabGreatDoor
namespace Go.Proofs.YtidaoijpbdljbabGreatDoor
open Go.RowKit
theorem list_atReader {xs : List VReader} {len k : Nat} (hl : Hid (len = xs.length)) (hk : k < len) : ∃ s, xs[k]? = some s := ⟨xs[k]'(by have := hl.out; omega), List.getElem?_eq_getElem _⟩
theorem made_ownReader (w : World) (base : Nat) (h : base ≤ w.heap.size) : (w.alloc (.cells #[] 25)).ownsRow base 25 5 (.slice (some ⟨w.heap.size, 0, none⟩) 0 0) ([] : List VReader).length (cellsReader []) :=
  World.ownsRow_made (base := base) (e := 25) (size := 5) w #[] 0 h (Nat.zero_le _) rfl
theorem one_Reader (xs : List VReader) : ∀ u ∈ cellsReader xs, u.oneCell' = true := by
  intro u hu
  obtain ⟨s, _, hs⟩ := List.mem_flatMap.1 hu
  exact s.vals_one u hs
set_option maxHeartbeats 1600000 in
set_option maxRecDepth 100000 in
/-- The index of the first element that a function value likes. -/
theorem idxReader_any (K : FuncId) (caps : Array Value) (f : VReader → Bool) (a : Option Addr) (len cap : Nat) (xs : List VReader) (w : World) (h : IsReaderS w a len cap xs)
    (hcall : ∀ args W, (callFunc K args).run Tryz.prog W = .ok (.enter K args) W)
    (hf : ∀ W s, s ∈ xs → Below w.heap.size w W → Calls Tryz.prog K (#[.agg #[.int .i64 s.Id, .string s.Name, .int .i64 s.Joined, .int .i64 s.Class, .int .i64 s.Fines]] ++ caps) W fun e w' => e = .returned (.bool (f s)) ∧ Below W.heap.size W w') :
    Calls Tryz.prog 95 #[.slice a len cap, .func (.func K) #[] caps] w fun e w' => e = .returned (.int .i64 (firstOf f xs)) ∧ Below w.heap.size w w' := by
  have hm := h.2.2.1
  have hcl := h.2.1
  unfold maxLen at hm
  have S := Lib.hid h
  have L := Lib.hid h.1
  have F := Lib.hid hf
  clear h hf
  go_enter Tryz.func95, Tryz.ntmps95
  go_wp2
  go_loopw [8, 5] (fun i _ wr => ∃ k : Nat, k ≤ len ∧ i = .int .i64 k ∧ Below w.heap.size w wr ∧ ∀ (j : Nat) t, j < k → xs[j]? = some t → f t = false) (fun i _ _ => len - (intOf i).toNat)
  case atStart => exact ⟨0, Nat.zero_le _, rfl, Below.refl _ _, by omega⟩
  case round =>
    obtain ⟨k, hk, rfl, hbel, hall⟩ := hrel
    have A := Lib.hid hall
    have B := Lib.hid hbel
    clear hall
    by_cases hlt : k < len
    · obtain ⟨s, hs⟩ := list_atReader L hlt
      obtain ⟨b, o, rfl, hb, hat⟩ := (S.out.below hbel).at (by omega)
      obtain ⟨c0, c1, c2, c3, c4, _⟩ := hat k s hs
      have X := Lib.hid hs
      clear hs hat hbel
      go_wp2_with fail
      refine (F.out wr s (List.mem_of_getElem? X.out) B.out).mono ?_
      rintro e w1 ⟨rfl, hb1⟩
      have B1 := Lib.hid (Below.then' B.out hb1)
      clear hb1
      by_cases hfs : f s = true
      · have FS := Lib.hid hfs
        rw [hfs]
        clear hfs
        go_wp2
        go_ret
        exact ⟨ret_int (firstOf_at X.out FS.out A.out).symm, B1.out⟩
      · have hfs' : f s = false := by simpa using hfs
        have FS := Lib.hid hfs'
        rw [hfs']
        clear hfs hfs'
        go_wp2
        go_roundw
        case rel => exact ⟨k + 1, by omega, by go_num, B1.out, fun j t hj ht => by
          by_cases e : j = k
          · subst e; rw [X.out] at ht; cases ht; exact FS.out
          · exact A.out j t (by omega) ht⟩
        case measure => simp [intOf]; omega
    · obtain rfl : k = len := by omega
      clear hbel
      go_wp2
      go_ret
      exact ⟨ret_int (firstOf_no fun j t hj ht => A.out j t (by have := L.out; omega) ht).symm, B.out⟩
set_option maxHeartbeats 1600000 in
set_option maxRecDepth 100000 in
/-- A clone: a row of the call's own. -/
theorem cloneReader_any (a : Option Addr) (len cap : Nat) (xs : List VReader) (w : World) (h : IsReaderS w a len cap xs) (hx : xs.length ≤ 1048576) :
    Calls Tryz.prog 48 #[.slice a len cap] w (ReaderRow xs w) := by
  obtain rfl := h.1
  obtain ⟨i0, hi, hz0, hz1, hz2⟩ := info_parts infoReader
  cases a with
  | none =>
    have h0 : xs.length = 0 := by
      rcases h.2.2.2 with h0 | ⟨b, o, e, _⟩
      · exact h0
      · cases e
    obtain rfl : xs = [] := List.length_eq_zero_iff.1 h0
    clear h h0
    have hnil := fun w a n c n' c' => Lib.run_eql_slice_nil (P := Tryz.prog) w 33 25 a n c n' c' Tryz.underlying33
    go_enter Tryz.func48, Tryz.ntmps48
    go_wp2
    go_ret
    exact ⟨_, rfl, ⟨by simp [cellsReader], .inl ⟨rfl, rfl⟩⟩, Below.refl _ _⟩
  | some ad =>
    have B0 := Lib.hid (bel_al1 w (.cells #[] 25))
    have O0 := made_ownReader w w.heap.size (Nat.le_refl _)
    have SRC := srcReader (h.below B0.out)
    have SZ := Lib.hid (size_al w (.cells #[] 25))
    clear h
    have hnil := fun w a n c n' c' => Lib.run_eql_slice_nil (P := Tryz.prog) w 33 25 a n c n' c' Tryz.underlying33
    go_enter Tryz.func48, Tryz.ntmps48
    go_wp2_with (at_builtin; refine wpList_append_list rfl _ _ 33 rfl w.heap.size 25 i0 (.agg #[.int .i64 0, .string ByteArray.empty, .int .i64 0, .int .i64 0, .int .i64 0]) 5 48 Tryz.underlying33 hi hz0 hz1 hz2 rfl (by decide) _ _ _ rfl O0 _ xs.length cap (cellsReader xs) rfl SRC (one_Reader xs) (by simp; unfold maxLen; omega) (by simp; omega) (by rw [SZ.out]; omega) ?_; intro v1 w1 hown1 hgrow1; have B1 := Lib.hid (B0.out.grown hgrow1 (by rw [SZ.out]; omega) (fun k e => by have := own_is e; omega)); have O1 := Lib.hid hown1; clear hown1 hgrow1)
    go_ret
    refine ⟨v1, rfl, ?_, B1.out⟩
    have h := O1.out
    simpa [cellsReader] using h
/-- A call of a function value enters the function. -/
theorem callf_ofReader {P : Program} {K : FuncId} {fn : Func} (hf : P.funcs[K]? = some fn) (h1 : (fn.name == "runtime.NumGoroutine") = false) (h2 : fn.body.isNone = false) : ∀ args W, (callFunc K args).run P W = .ok (.enter K args) W := by
  intro args W
  have h1' : ¬ fn.name = "runtime.NumGoroutine" := by simpa using h1
  have h2' : ¬ fn.body = none := by intro h; rw [h] at h2; cases h2
  simp [callFunc, go_sem, hf, h1', h2']
end Go.Proofs.YtidaoijpbdljbabGreatDoor
namespace Go.Proofs.YtidaoijpbdljbabGreatDoor
open Go.RowKit
/-- A row of integers of the call's own, and the world below as it was. -/
def IdsOwn (xs : List Int) (w : World) (e : Ending) (w' : World) : Prop := ∃ v, e = .returned v ∧ w'.ownsRow w.heap.size 3 1 v xs.length (intCells xs) ∧ Below w.heap.size w w'
theorem where_more {α : Type} {xs : List α} {k : Nat} {s : α} (f : α → Bool) (g : α → Int) (hs : xs[k]? = some s) : ((xs.take (k + 1)).filter f).map g = ((xs.take k).filter f).map g ++ (if f s = true then [g s] else []) := by
  rw [List.take_add_one, hs, List.filter_append, List.map_append]
  cases h : f s <;> simp [h]
theorem where_len {α : Type} (f : α → Bool) (g : α → Int) (xs : List α) (k : Nat) : (((xs.take k).filter f).map g).length ≤ k := by
  rw [List.length_map]
  exact Nat.le_trans (List.length_filter_le _ _) (by rw [List.length_take]; omega)
theorem nil_ids (w : World) (base : Nat) : w.ownsRow base 3 1 (.slice none 0 0) ([] : List Int).length (intCells []) := ⟨by simp [intCells], .inl ⟨rfl, rfl⟩⟩
theorem made_ids (w : World) : (w.alloc (.cells #[] 3)).ownsRow w.heap.size 3 1 (.slice (some ⟨w.heap.size, 0, none⟩) 0 0) ([] : List Int).length (intCells []) :=
  World.ownsRow_made (base := w.heap.size) (e := 3) (size := 1) w #[] 0 (Nat.le_refl _) (Nat.zero_le _) rfl
theorem wh_al1 (w : World) (o : Obj) : Below w.heap.size w (w.alloc o) := (Below.refl _ _).alloc (Nat.le_refl _) _
theorem cell_box' (w : World) (v : Value) (t : TypeId) (B : Nat) (hB : w.heap.size = B) : (w.alloc (.cells #[v] t)).cell? ⟨B, 0, none⟩ = some v := by
  subst hB
  simp [World.cell?_alloc_new]
theorem cell_stay' {w w' : World} {b o : Nat} {v : Value} (h : w.cell? ⟨b, o, none⟩ = some v) (hb : Below w.heap.size w w') : w'.cell? ⟨b, o, none⟩ = some v := (hb.cell (p := ⟨b, o, none⟩) (World.lt_of_cell h)).trans h
/-- A call of a function value enters the function. -/
theorem enters_fn' {P : Program} {K : FuncId} {fn : Func} (hf : P.funcs[K]? = some fn) (h1 : (fn.name == "runtime.NumGoroutine") = false) (h2 : fn.body.isNone = false) : ∀ args W, (callFunc K args).run P W = .ok (.enter K args) W := by
  intro args W
  have h1' : ¬ fn.name = "runtime.NumGoroutine" := by simpa using h1
  have h2' : ¬ fn.body = none := by intro h; rw [h] at h2; cases h2
  simp [callFunc, go_sem, hf, h1', h2']
end Go.Proofs.YtidaoijpbdljbabGreatDoor
namespace Go.Proofs.YtidaoijpbdljbabGreatDoor
open Go.RowKit

set_option maxHeartbeats 3200000 in
set_option maxRecDepth 100000 in
theorem idIsReader_any (K : FuncId) (idf : VReader → Int) (s : VReader) (id : Int) (b1 b2 : Nat) (w : World) (h1 : w.cell? ⟨b1, 0, none⟩ = some (.func (.func K) #[] #[])) (h2 : w.cell? ⟨b2, 0, none⟩ = some (.int .i64 id))
    (hcall : ∀ args W, (callFunc K args).run Tryz.prog W = .ok (.enter K args) W)
    (hf : ∀ W, Calls Tryz.prog K #[.agg #[.int .i64 s.Id, .string s.Name, .int .i64 s.Joined, .int .i64 s.Class, .int .i64 s.Fines]] W fun e w' => e = .returned (.int .i64 (idf s)) ∧ Below W.heap.size W w') :
    Calls Tryz.prog 96 #[.agg #[.int .i64 s.Id, .string s.Name, .int .i64 s.Joined, .int .i64 s.Class, .int .i64 s.Fines], .pointer (some ⟨b1, 0, none⟩), .pointer (some ⟨b2, 0, none⟩)] w fun e w' => e = .returned (.bool (idf s == id)) ∧ Below w.heap.size w w' := by
  obtain ⟨y, hy⟩ : ∃ y, idf s = y := ⟨_, rfl⟩
  rw [hy]
  rw [hy] at hf
  have F := Lib.hid hf
  have H1 := Lib.hid h1
  have H2 := Lib.hid h2
  have HC := Lib.hid hcall
  clear hf hy h1 h2 hcall
  go_enter Tryz.func96, Tryz.ntmps96
  go_wp2
  refine wp_world (fun W => BoxReader W w.heap.size s ∧ Below w.heap.size w W) ⟨(BoxReader.new _ 25 s _ rfl), bel_al1 _ _⟩ ?_
  rintro W ⟨hbox, hbw⟩
  have BW := Lib.hid hbw
  obtain ⟨e0, e1, e2, e3, e4⟩ := hbox
  have g1 := cell_regrown (cell_stay' H1.out hbw)
  have g2 := cell_regrown (cell_stay' H2.out hbw)
  clear hbw
  have k0 := cell_regrown e0
  have k1 := cell_regrown e1
  have k2 := cell_regrown e2
  have k3 := cell_regrown e3
  have k4 := cell_regrown e4
  clear e0 e1 e2 e3 e4
  have cQ := below_at (W := W) (fun W' _ => F.out W')
  have hcall := HC.out
  refine wp_region_quiet_below (by kernel_rfl) (by kernel_rfl) ?_
  repeat (first | go_big_quiet_step (first | (with_reducible exact cQ _ _)) | quiet_step (first | (with_reducible exact cQ _ _)))
  refine wpQuiet_nil ?_
  intro W2 hw2
  have B2 := Lib.hid (Below.then' BW.out (below_of_re hw2))
  clear hw2 cQ k0 k1 k2 k3 k4 g1 g2 hcall
  go_wp2
  go_ret
  exact ⟨rfl, B2.out⟩
set_option maxHeartbeats 3200000 in
set_option maxRecDepth 100000 in
theorem indexByReader_any (K : FuncId) (idf : VReader → Int) (a : Option Addr) (len cap : Nat) (xs : List VReader) (id : Int) (w : World) (h : IsReaderS w a len cap xs)
    (hcall : ∀ args W, (callFunc K args).run Tryz.prog W = .ok (.enter K args) W)
    (hf : ∀ (W : World) (s : VReader), Calls Tryz.prog K #[.agg #[.int .i64 s.Id, .string s.Name, .int .i64 s.Joined, .int .i64 s.Class, .int .i64 s.Fines]] W fun e w' => e = .returned (.int .i64 (idf s)) ∧ Below W.heap.size W w') :
    Calls Tryz.prog 79 #[.slice a len cap, .int .i64 id, .func (.func K) #[] #[]] w fun e w' => e = .returned (.int .i64 (firstOf (fun s => idf s == id) xs)) ∧ Below w.heap.size w w' := by
  have b1 := wh_al1 w (.cells #[.int .i64 id] 3)
  have b2 := Below.then' b1 (wh_al1 (w.alloc (.cells #[.int .i64 id] 3)) (.cells #[.func (.func K) #[] #[]] 80))
  have S := Lib.hid (h.below b2)
  have C1 := Lib.hid (cell_stay' (cell_box' w (.int .i64 id) 3 _ rfl) (wh_al1 (w.alloc (.cells #[.int .i64 id] 3)) (.cells #[.func (.func K) #[] #[]] 80)))
  have C2 := Lib.hid (cell_box' (w.alloc (.cells #[.int .i64 id] 3)) (.func (.func K) #[] #[]) 80 (w.heap.size + 1) (by simp))
  have B0 := Lib.hid b2
  have F := Lib.hid hf
  have HC := Lib.hid hcall
  clear h b1 b2 hf hcall
  go_enter Tryz.func79, Tryz.ntmps79
  go_wp2_with fail
  refine (idxReader_any 96 #[.pointer (some ⟨w.heap.size + 1, 0, none⟩), .pointer (some ⟨w.heap.size, 0, none⟩)] (fun s => idf s == id) a len cap xs _ S.out (enters_fn' Tryz.func96 (by kernel_rfl) (by kernel_rfl)) (fun W s _ hW => by
    have h1 := idIsReader_any K idf s id (w.heap.size + 1) w.heap.size W (cell_stay' C2.out hW) (cell_stay' C1.out hW) HC.out (fun W' => F.out W' s)
    simpa using h1)).mono ?_
  rintro e w1 ⟨rfl, hb⟩
  have B := Lib.hid (Below.then' B0.out hb)
  clear hb
  go_wp2
  go_ret
  exact ⟨rfl, B.out⟩
set_option maxHeartbeats 6400000 in
set_option maxRecDepth 100000 in
theorem idsWhereReader_any (K1 K : FuncId) (idf : VReader → Int) (caps : Array Value) (f : VReader → Bool) (a : Option Addr) (len cap : Nat) (xs : List VReader) (w : World) (h : IsReaderS w a len cap xs) (hl : xs.length ≤ 100000)
    (hcall1 : ∀ args W, (callFunc K1 args).run Tryz.prog W = .ok (.enter K1 args) W) (hcall : ∀ args W, (callFunc K args).run Tryz.prog W = .ok (.enter K args) W)
    (hi1 : ∀ (W : World) (s : VReader), Calls Tryz.prog K1 #[.agg #[.int .i64 s.Id, .string s.Name, .int .i64 s.Joined, .int .i64 s.Class, .int .i64 s.Fines]] W fun e w' => e = .returned (.int .i64 (idf s)) ∧ Below W.heap.size W w')
    (hf : ∀ (W : World) (s : VReader), s ∈ xs → s.small → Below w.heap.size w W → Calls Tryz.prog K (#[.agg #[.int .i64 s.Id, .string s.Name, .int .i64 s.Joined, .int .i64 s.Class, .int .i64 s.Fines]] ++ caps) W fun e w' => e = .returned (.bool (f s)) ∧ Below W.heap.size W w') :
    Calls Tryz.prog 72 #[.slice a len cap, .func (.func K1) #[] #[], .func (.func K) #[] caps] w (IdsOwn ((xs.filter f).map idf) w) := by
  obtain rfl := h.1
  obtain ⟨i0, hi, hz0, hz1, hz2⟩ := info_parts infoInt
  have hm := h.2.2.1
  have hcl := h.2.1
  unfold maxLen at hm
  have S := Lib.hid h
  have F := Lib.hid hf
  have F1 := Lib.hid hi1
  clear h hf hi1
  go_enter Tryz.func72, Tryz.ntmps72
  go_wp2
  go_loopw [12, 7] (fun i o wr => ∃ k : Nat, k ≤ xs.length ∧ i = .int .i64 k ∧ wr.ownsRow w.heap.size 3 1 o (((xs.take k).filter f).map idf).length (intCells (((xs.take k).filter f).map idf)) ∧ Below w.heap.size w wr) (fun i _ _ => xs.length - (intOf i).toNat)
  case atStart => exact ⟨0, Nat.zero_le _, rfl, ⟨by simp [intCells], .inl ⟨rfl, rfl⟩⟩, Below.refl _ _⟩
  case round =>
    obtain ⟨k, hk, rfl, hown, hbel⟩ := hrel
    have B := Lib.hid hbel
    by_cases hlt : k < xs.length
    · obtain ⟨s, hs⟩ : ∃ s, xs[k]? = some s := ⟨xs[k]'hlt, List.getElem?_eq_getElem _⟩
      obtain ⟨b, o, rfl, hbw, hat⟩ := (S.out.below hbel).at (by omega)
      obtain ⟨c0, c1, c2, c3, c4, hsm⟩ := hat k s hs
      have FS := Lib.hid (where_more f idf hs)
      have hgl := where_len f idf xs k
      obtain ⟨G, hG⟩ : ∃ G, ((xs.take k).filter f).map idf = G := ⟨_, rfl⟩
      rw [hG] at hown FS hgl
      have O := Lib.hid hown
      obtain ⟨r, hr⟩ : ∃ r, f s = r := ⟨_, rfl⟩
      have RR := Lib.hid hr
      obtain ⟨y, hy⟩ : ∃ y, idf s = y := ⟨_, rfl⟩
      have YY := Lib.hid hy
      have bw := wh_al1 wr (.cells #[.int .i64 s.Id, .string s.Name, .int .i64 s.Joined, .int .i64 s.Class, .int .i64 s.Fines] 25)
      have BX := Lib.hid (BoxReader.new wr 25 s _ rfl)
      have SM := Lib.hid hsm
      clear hsm
      have BW := Lib.hid bw
      have K1' := Lib.hid hs
      have hi0 : (0 : Int) ≤ (k : Int) := by omega
      have hi1 : (k : Int) < (xs.length : Int) := by omega
      have hsz := B.out.size
      clear hs hat hbel hG hr hy hown bw
      go_wp2_with fail
      refine (F.out _ s (List.mem_of_getElem? K1'.out) SM.out (Below.then' B.out BW.out)).mono ?_
      rintro e w2 ⟨rfl, hb⟩
      rw [RR.out]
      have hb' := Below.then' BW.out hb
      have B2 := Lib.hid (Below.then' B.out hb')
      have O2 := Lib.hid (ownsRow_below O.out hb')
      have BX2 := Lib.hid (BX.out.below hb)
      have hs2 := hb'.size
      clear hb hb' c0 c1 c2 c3 c4
      cases r
      · go_wp2
        go_roundw
        case rel => exact ⟨k + 1, by omega, by go_num, by rw [FS.out, RR.out]; simpa using O2.out, B2.out⟩
        case measure => simp [intOf]; omega
      · obtain ⟨e0, e1, e2, e3, e4⟩ := BX2.out
        go_wp2_with fail
        refine (F1.out _ s).mono ?_
        rintro e w3 ⟨rfl, hb⟩
        rw [YY.out]
        have B3 := Lib.hid (Below.then' B2.out hb)
        have hown3 := (ownsRow_below O2.out hb).alloc (.cells #[.int .i64 y] 3)
        have hs3 := hb.size
        clear hb e0 e1 e2 e3 e4
        go_wp2_with (at_builtin; refine wpList_append_own _ rfl _ _ 43 rfl w.heap.size 3 i0 (.int .i64 0) 1 8 Tryz.underlying43 hi hz0 hz1 hz2 rfl (by decide) _ _ _ rfl hown3 ⟨w3.heap.size, 0, none⟩ 1 1 [.int .i64 y] rfl rfl (cell_one _ _ _) (fun x hx => by simp at hx; subst hx; rfl) (by unfold maxLen; omega) (by omega) (by simp; omega) ?_; intro v' w4 hown' hgrow4 hnil4)
        go_roundw
        case rel =>
          refine ⟨k + 1, by omega, by go_num, ?_, (Below.then' B3.out (wh_al1 _ _)).grown hgrow4 (by simp; omega) (fun j e => (hown3.lt j e).1)⟩
          rw [FS.out, RR.out, if_pos rfl, YY.out, intCells_snoc]
          rw [List.length_append]
          exact hown'
        case measure => simp [intOf]; omega
    · obtain rfl : k = xs.length := by omega
      rw [List.take_of_length_le (Nat.le_refl _)] at hown
      have O := Lib.hid hown
      clear hbel hown
      go_wp2
      go_ret
      exact ⟨_, rfl, O.out, B.out⟩
end Go.Proofs.YtidaoijpbdljbabGreatDoor
namespace Go.Proofs.YtidaoijpbdljbabGreatDoor
open Go.RowKit

theorem readerId_any (s : VReader) (w : World) : Calls Tryz.prog 54 #[.agg #[.int .i64 s.Id, .string s.Name, .int .i64 s.Joined, .int .i64 s.Class, .int .i64 s.Fines]] w fun e w' => e = .returned (.int .i64 s.Id) ∧ Below w.heap.size w w' := by
  go_enter Tryz.func54, Tryz.ntmps54
  go_wp2
  go_ret
  exact ⟨rfl, bel_al1 _ _⟩
theorem len_leR {n : Nat} {k : Nat} : decide ((n : Int) ≤ (k : Int)) = decide (n ≤ k) := by rw [decide_eq_decide]; omega
set_option maxHeartbeats 1600000 in
theorem areRd_any (a : Option Addr) (len cap : Nat) (xs : List VReader) (w : World) (h : IsReaderS w a len cap xs) :
    Calls Tryz.prog 47 #[.slice a len cap] w fun e w' => e = .returned (.bool (areRd xs)) ∧ Below w.heap.size w w' := by
  have S := Lib.hid h
  clear h
  go_enter Tryz.func47, Tryz.ntmps47
  go_wp2_with fail
  refine (byReader_any 8 54 VReader.ok VReader.Id 10 a len cap xs _ S.out (enters_fn Tryz.func8 (by kernel_rfl) (by kernel_rfl)) (enters_fn Tryz.func54 (by kernel_rfl) (by kernel_rfl)) (fun W s _ hs => isRd_any s W hs) (fun W s => readerId_any s W)).mono ?_
  rintro e w2 ⟨rfl, hb⟩
  have B := Lib.hid hb
  clear hb
  go_wp2
  go_ret
  exact ⟨ret_bool (by unfold areRd rdUp; rw [← len_leR]; rfl), B.out⟩
end Go.Proofs.YtidaoijpbdljbabGreatDoor
