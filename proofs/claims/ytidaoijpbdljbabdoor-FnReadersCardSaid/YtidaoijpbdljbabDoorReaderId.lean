/- Searches by a number and collecting numbers: the program's indexOfId and idsWhere at Reader. (made by genid.py) -/
import Derived.Test.YtidaoijpbdljbabDoorReaderL
import Derived.Test.YtidaoijpbdljbabDoorSw
import Derived.Test.YtidaoijpbdljbabDoorWh
namespace Go.Proofs.YtidaoijpbdljbabDoor
open Go.RowKit

set_option maxHeartbeats 3200000 in
set_option maxRecDepth 100000 in
theorem idIsReader_any (K : FuncId) (idf : VReader → Int) (s : VReader) (id : Int) (b1 b2 : Nat) (w : World) (h1 : w.cell? ⟨b1, 0, none⟩ = some (.func (.func K) #[] #[])) (h2 : w.cell? ⟨b2, 0, none⟩ = some (.int .i64 id))
    (hcall : ∀ args W, (callFunc K args).run Tryd.prog W = .ok (.enter K args) W)
    (hf : ∀ W, Calls Tryd.prog K #[.agg #[.int .i64 s.Id, .string s.Name, .int .i64 s.Joined, .int .i64 s.Class, .int .i64 s.Fines]] W fun e w' => e = .returned (.int .i64 (idf s)) ∧ Below W.heap.size W w') :
    Calls Tryd.prog 70 #[.agg #[.int .i64 s.Id, .string s.Name, .int .i64 s.Joined, .int .i64 s.Class, .int .i64 s.Fines], .pointer (some ⟨b1, 0, none⟩), .pointer (some ⟨b2, 0, none⟩)] w fun e w' => e = .returned (.bool (idf s == id)) ∧ Below w.heap.size w w' := by
  obtain ⟨y, hy⟩ : ∃ y, idf s = y := ⟨_, rfl⟩
  rw [hy]
  rw [hy] at hf
  have F := Lib.hid hf
  have H1 := Lib.hid h1
  have H2 := Lib.hid h2
  have HC := Lib.hid hcall
  clear hf hy h1 h2 hcall
  go_enter Tryd.func70, Tryd.ntmps70
  go_wp2
  refine wp_world (fun W => BoxReader W w.heap.size s ∧ Below w.heap.size w W) ⟨(BoxReader.new _ 36 s _ rfl), bel_al1 _ _⟩ ?_
  rintro W ⟨hbox, hbw⟩
  have BW := Lib.hid hbw
  obtain ⟨e0, e1, e2, e3, e4⟩ := hbox
  have g1 := cell_regrown (cell_stay' H1.out hbw)
  have g2 := cell_regrown (cell_stay' H2.out hbw)
  clear hbw
  have k0 := cell_regrown e0
  have k1 := cell_regrown e1
  have k2 := cell_regrown e2
  have k3 := cell_regrown e3
  have k4 := cell_regrown e4
  clear e0 e1 e2 e3 e4
  have cQ := below_at (W := W) (fun W' _ => F.out W')
  have hcall := HC.out
  refine wp_region_quiet_below (by kernel_rfl) (by kernel_rfl) ?_
  repeat (first | go_big_quiet_step (first | (with_reducible exact cQ _ _)) | quiet_step (first | (with_reducible exact cQ _ _)))
  refine wpQuiet_nil ?_
  intro W2 hw2
  have B2 := Lib.hid (Below.then' BW.out (below_of_re hw2))
  clear hw2 cQ k0 k1 k2 k3 k4 g1 g2 hcall
  go_wp2
  go_ret
  exact ⟨rfl, B2.out⟩
set_option maxHeartbeats 3200000 in
set_option maxRecDepth 100000 in
theorem indexByReader_any (K : FuncId) (idf : VReader → Int) (a : Option Addr) (len cap : Nat) (xs : List VReader) (id : Int) (w : World) (h : IsReaderS w a len cap xs)
    (hcall : ∀ args W, (callFunc K args).run Tryd.prog W = .ok (.enter K args) W)
    (hf : ∀ (W : World) (s : VReader), Calls Tryd.prog K #[.agg #[.int .i64 s.Id, .string s.Name, .int .i64 s.Joined, .int .i64 s.Class, .int .i64 s.Fines]] W fun e w' => e = .returned (.int .i64 (idf s)) ∧ Below W.heap.size W w') :
    Calls Tryd.prog 68 #[.slice a len cap, .int .i64 id, .func (.func K) #[] #[]] w fun e w' => e = .returned (.int .i64 (firstOf (fun s => idf s == id) xs)) ∧ Below w.heap.size w w' := by
  have b1 := wh_al1 w (.cells #[.int .i64 id] 3)
  have b2 := Below.then' b1 (wh_al1 (w.alloc (.cells #[.int .i64 id] 3)) (.cells #[.func (.func K) #[] #[]] 60))
  have S := Lib.hid (h.below b2)
  have C1 := Lib.hid (cell_stay' (cell_box' w (.int .i64 id) 3 _ rfl) (wh_al1 (w.alloc (.cells #[.int .i64 id] 3)) (.cells #[.func (.func K) #[] #[]] 60)))
  have C2 := Lib.hid (cell_box' (w.alloc (.cells #[.int .i64 id] 3)) (.func (.func K) #[] #[]) 60 (w.heap.size + 1) (by simp))
  have B0 := Lib.hid b2
  have F := Lib.hid hf
  have HC := Lib.hid hcall
  clear h b1 b2 hf hcall
  go_enter Tryd.func68, Tryd.ntmps68
  go_wp2_with fail
  refine (idxReader_any 70 #[.pointer (some ⟨w.heap.size + 1, 0, none⟩), .pointer (some ⟨w.heap.size, 0, none⟩)] (fun s => idf s == id) a len cap xs _ S.out (enters_fn' Tryd.func70 (by kernel_rfl) (by kernel_rfl)) (fun W s _ hW => by
    have h1 := idIsReader_any K idf s id (w.heap.size + 1) w.heap.size W (cell_stay' C2.out hW) (cell_stay' C1.out hW) HC.out (fun W' => F.out W' s)
    simpa using h1)).mono ?_
  rintro e w1 ⟨rfl, hb⟩
  have B := Lib.hid (Below.then' B0.out hb)
  clear hb
  go_wp2
  go_ret
  exact ⟨rfl, B.out⟩
set_option maxHeartbeats 6400000 in
set_option maxRecDepth 100000 in
theorem idsWhereReader_any (K1 K : FuncId) (idf : VReader → Int) (caps : Array Value) (f : VReader → Bool) (a : Option Addr) (len cap : Nat) (xs : List VReader) (w : World) (h : IsReaderS w a len cap xs) (hl : xs.length ≤ 100000)
    (hcall1 : ∀ args W, (callFunc K1 args).run Tryd.prog W = .ok (.enter K1 args) W) (hcall : ∀ args W, (callFunc K args).run Tryd.prog W = .ok (.enter K args) W)
    (hi1 : ∀ (W : World) (s : VReader), Calls Tryd.prog K1 #[.agg #[.int .i64 s.Id, .string s.Name, .int .i64 s.Joined, .int .i64 s.Class, .int .i64 s.Fines]] W fun e w' => e = .returned (.int .i64 (idf s)) ∧ Below W.heap.size W w')
    (hf : ∀ (W : World) (s : VReader), s ∈ xs → s.small → Below w.heap.size w W → Calls Tryd.prog K (#[.agg #[.int .i64 s.Id, .string s.Name, .int .i64 s.Joined, .int .i64 s.Class, .int .i64 s.Fines]] ++ caps) W fun e w' => e = .returned (.bool (f s)) ∧ Below W.heap.size W w') :
    Calls Tryd.prog 46 #[.slice a len cap, .func (.func K1) #[] #[], .func (.func K) #[] caps] w (IdsOwn ((xs.filter f).map idf) w) := by
  obtain rfl := h.1
  obtain ⟨i0, hi, hz0, hz1, hz2⟩ := info_parts infoInt
  have hm := h.2.2.1
  have hcl := h.2.1
  unfold maxLen at hm
  have S := Lib.hid h
  have F := Lib.hid hf
  have F1 := Lib.hid hi1
  clear h hf hi1
  go_enter Tryd.func46, Tryd.ntmps46
  go_wp2
  go_loopw [12, 7] (fun i o wr => ∃ k : Nat, k ≤ xs.length ∧ i = .int .i64 k ∧ wr.ownsRow w.heap.size 3 1 o (((xs.take k).filter f).map idf).length (intCells (((xs.take k).filter f).map idf)) ∧ Below w.heap.size w wr) (fun i _ _ => xs.length - (intOf i).toNat)
  case atStart => exact ⟨0, Nat.zero_le _, rfl, ⟨by simp [intCells], .inl ⟨rfl, rfl⟩⟩, Below.refl _ _⟩
  case round =>
    obtain ⟨k, hk, rfl, hown, hbel⟩ := hrel
    have B := Lib.hid hbel
    by_cases hlt : k < xs.length
    · obtain ⟨s, hs⟩ : ∃ s, xs[k]? = some s := ⟨xs[k]'hlt, List.getElem?_eq_getElem _⟩
      obtain ⟨b, o, rfl, hbw, hat⟩ := (S.out.below hbel).at (by omega)
      obtain ⟨c0, c1, c2, c3, c4, hsm⟩ := hat k s hs
      have FS := Lib.hid (where_more f idf hs)
      have hgl := where_len f idf xs k
      obtain ⟨G, hG⟩ : ∃ G, ((xs.take k).filter f).map idf = G := ⟨_, rfl⟩
      rw [hG] at hown FS hgl
      have O := Lib.hid hown
      obtain ⟨r, hr⟩ : ∃ r, f s = r := ⟨_, rfl⟩
      have RR := Lib.hid hr
      obtain ⟨y, hy⟩ : ∃ y, idf s = y := ⟨_, rfl⟩
      have YY := Lib.hid hy
      have bw := wh_al1 wr (.cells #[.int .i64 s.Id, .string s.Name, .int .i64 s.Joined, .int .i64 s.Class, .int .i64 s.Fines] 36)
      have BX := Lib.hid (BoxReader.new wr 36 s _ rfl)
      have SM := Lib.hid hsm
      clear hsm
      have BW := Lib.hid bw
      have K1' := Lib.hid hs
      have hi0 : (0 : Int) ≤ (k : Int) := by omega
      have hi1 : (k : Int) < (xs.length : Int) := by omega
      have hsz := B.out.size
      clear hs hat hbel hG hr hy hown bw
      go_wp2_with fail
      refine (F.out _ s (List.mem_of_getElem? K1'.out) SM.out (Below.then' B.out BW.out)).mono ?_
      rintro e w2 ⟨rfl, hb⟩
      rw [RR.out]
      have hb' := Below.then' BW.out hb
      have B2 := Lib.hid (Below.then' B.out hb')
      have O2 := Lib.hid (ownsRow_below O.out hb')
      have BX2 := Lib.hid (BX.out.below hb)
      have hs2 := hb'.size
      clear hb hb' c0 c1 c2 c3 c4
      cases r
      · go_wp2
        go_roundw
        case rel => exact ⟨k + 1, by omega, by go_num, by rw [FS.out, RR.out]; simpa using O2.out, B2.out⟩
        case measure => simp [intOf]; omega
      · obtain ⟨e0, e1, e2, e3, e4⟩ := BX2.out
        go_wp2_with fail
        refine (F1.out _ s).mono ?_
        rintro e w3 ⟨rfl, hb⟩
        rw [YY.out]
        have B3 := Lib.hid (Below.then' B2.out hb)
        have hown3 := (ownsRow_below O2.out hb).alloc (.cells #[.int .i64 y] 3)
        have hs3 := hb.size
        clear hb e0 e1 e2 e3 e4
        go_wp2_with (at_builtin; refine wpList_append_own _ rfl _ _ 39 rfl w.heap.size 3 i0 (.int .i64 0) 1 8 Tryd.underlying39 hi hz0 hz1 hz2 rfl (by decide) _ _ _ rfl hown3 ⟨w3.heap.size, 0, none⟩ 1 1 [.int .i64 y] rfl rfl (cell_one _ _ _) (fun x hx => by simp at hx; subst hx; rfl) (by unfold maxLen; omega) (by omega) (by simp; omega) ?_; intro v' w4 hown' hgrow4 hnil4)
        go_roundw
        case rel =>
          refine ⟨k + 1, by omega, by go_num, ?_, (Below.then' B3.out (wh_al1 _ _)).grown hgrow4 (by simp; omega) (fun j e => (hown3.lt j e).1)⟩
          rw [FS.out, RR.out, if_pos rfl, YY.out, intCells_snoc]
          rw [List.length_append]
          exact hown'
        case measure => simp [intOf]; omega
    · obtain rfl : k = xs.length := by omega
      rw [List.take_of_length_le (Nat.le_refl _)] at hown
      have O := Lib.hid hown
      clear hbel hown
      go_wp2
      go_ret
      exact ⟨_, rfl, O.out, B.out⟩
end Go.Proofs.YtidaoijpbdljbabDoor
