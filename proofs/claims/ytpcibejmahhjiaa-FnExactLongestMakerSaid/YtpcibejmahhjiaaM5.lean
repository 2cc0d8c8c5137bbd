/- Texts in one: KeeperInP, ActiveInP, FounderIdsP, GapYearsP, Mi3, MakerR, MakerMm, StrClone. -/
import Derived.Test.YtpcibejmahhjiaaM2
import Derived.Test.YtpcibejmahhjiaaM4
import Derived.Test.YtpcibejmahhjiaaM1
import Derived.Test.YtpcibejmahhjiaaM3
import Derived.Laws.StructEq
import Derived.StillTailTactics
import Derived.Test.YtpcibejmahhjiaaShelf
namespace Go.Proofs.Ytpcibejmahhjiaa
open Go.RowKit
def KeeperIn_Post (z0 : List VMaker) (z1 : Int) (z2 : Int) (w : World) (e : Ending) (w' : World) : Prop :=
  e = .returned (.tuple #[.int .i64 (KeeperIn_0 z0 z1 z2), .bool (KeeperIn_1 z0 z1 z2)]) ∧ Below w.heap.size w w'
end Go.Proofs.Ytpcibejmahhjiaa
namespace Go.Proofs.Ytpcibejmahhjiaa
open Go.RowKit
def ActiveIn_Post (z0 : List VMaker) (z1 : Int) (w : World) (e : Ending) (w' : World) : Prop :=
  ∃ v0 : Value, e = .returned (.tuple #[v0, .bool (ActiveIn_1 z0 z1)]) ∧ w'.ownsRow w.heap.size 3 1 v0 (ActiveIn_0 z0 z1).length (intCells (ActiveIn_0 z0 z1)) ∧ Below w.heap.size w w'
end Go.Proofs.Ytpcibejmahhjiaa
namespace Go.Proofs.Ytpcibejmahhjiaa
open Go.RowKit
def FounderIds_Post (z0 : List VMaker) (w : World) (e : Ending) (w' : World) : Prop :=
  ∃ v0 : Value, e = .returned (.tuple #[v0, .bool (FounderIds_1 z0)]) ∧ w'.ownsRow w.heap.size 3 1 v0 (FounderIds_0 z0).length (intCells (FounderIds_0 z0)) ∧ Below w.heap.size w w'
end Go.Proofs.Ytpcibejmahhjiaa
namespace Go.Proofs.Ytpcibejmahhjiaa
open Go.RowKit
def GapYears_Post (z0 : List VMaker) (z1 : Int) (w : World) (e : Ending) (w' : World) : Prop :=
  e = .returned (.tuple #[.int .i64 (GapYears_0 z0 z1), .bool (GapYears_1 z0 z1)]) ∧ Below w.heap.size w w'
end Go.Proofs.Ytpcibejmahhjiaa
namespace Go.Proofs.Ytpcibejmahhjiaa
open Go.RowKit

theorem implIsMaker_any (s : VMaker) (w : World) (hz : s.sized) : Calls Try.prog 32 #[.agg #[.int .i64 s.Id, .string s.Name, .int .i64 s.From, .int .i64 s.Until, .int .i64 s.Heir]] w (IsMaker_Post s w) := isMk_any s w (sized_smallMaker s hz)
theorem implAreMakers_any (a : Option Addr) (len cap : Nat) (xs : List VMaker) (w : World) (h : IsMakerS w a len cap xs) (_ : xs.length ≤ 1048576) (_ : ∀ s ∈ xs, s.sized) :
    Calls Try.prog 36 #[.slice a len cap] w (AreMakers_Post xs w) := areMk_any a len cap xs w h
set_option maxHeartbeats 3200000 in
theorem implLineOf_any (a : Option Addr) (len cap : Nat) (xs : List VMaker) (id : Int) (w : World) (h : IsMakerS w a len cap xs) (_ : xs.length ≤ 1048576) (hz : ∀ s ∈ xs, s.sized) :
    Calls Try.prog 19 #[.slice a len cap, .int .i64 id] w (LineOf_Post xs id w) := by
  have S := Lib.hid h
  have HZ := Lib.hid hz
  clear h hz
  go_enter Try.func19, Try.ntmps19
  go_wp2_with fail
  refine (lineFrom_any _ _ _ xs id _ S.out).mono ?_
  rintro e w1 ⟨v, rfl, hown, hb⟩
  have B1 := Lib.hid hb
  obtain ⟨a1, c1, rfl, his, _⟩ := isMakerS_own hown (fun s hs => sized_smallMaker s (HZ.out s (lineMk_in s hs)))
  have LL := lineMk_len xs id
  have E := Lib.hid (lineMk_pos xs id)
  have S1 := Lib.hid his
  have E0 := Lib.hid (show LineOf_0 xs id = (lineMk xs id).map VMaker.Id from rfl)
  obtain ⟨L, hL⟩ : ∃ L, lineMk xs id = L := ⟨_, rfl⟩
  rw [hL] at S1 E LL E0 ⊢
  clear hown his hb hL
  go_wp2_with fail
  refine (idsOfMaker_any 65 VMaker.Id _ _ _ L _ S1.out (by omega) (enters_fn Try.func65 (by kernel_rfl) (by kernel_rfl)) (fun W s => makerId_any s W)).mono ?_
  rintro e w2 ⟨v, rfl, hown, hb⟩
  have B2 := Lib.hid (Below.then' B1.out hb)
  have O := Lib.hid (ownsRow_base hown B1.out.size)
  clear hown hb
  go_wp2
  go_ret2
  exact ⟨v, by unfold LineOf_1; rw [← E.out]; rfl, by rw [E0.out]; exact O.out, B2.out⟩
set_option maxHeartbeats 3200000 in
set_option maxRecDepth 100000 in
theorem implKeeperIn_any (a : Option Addr) (len cap : Nat) (xs : List VMaker) (id y : Int) (w : World) (h : IsMakerS w a len cap xs) (_ : xs.length ≤ 1048576) (hz : ∀ s ∈ xs, s.sized) :
    Calls Try.prog 27 #[.slice a len cap, .int .i64 id, .int .i64 y] w (KeeperIn_Post xs id y w) := by
  have S := Lib.hid h
  have HZ := Lib.hid hz
  clear h hz
  obtain ⟨q, hq⟩ : ∃ q, yearB y = q := ⟨_, rfl⟩
  have Q := Lib.hid hq
  have K1 := Lib.hid (keeper_one xs id y)
  clear hq
  go_enter Try.func27, Try.ntmps27
  go_wp2_with fail
  refine (isYear_any _ _).mono ?_
  rintro e w1 ⟨rfl, hb⟩
  rw [Q.out]
  have B1 := Lib.hid hb
  have S1 := Lib.hid (S.out.below hb)
  clear hb
  cases q
  · have E := Lib.hid (show KeeperIn_0 xs id y = 0 from by unfold KeeperIn_0; rw [Q.out]; rfl)
    go_wp2
    go_ret2
    exact ⟨by rw [K1.out, E.out]; rfl, B1.out⟩
  have E := Lib.hid (show KeeperIn_0 xs id y = keep y (lineMk xs id) from by unfold KeeperIn_0; rw [Q.out]; rfl)
  go_wp2_with fail
  refine (lineFrom_any _ _ _ xs id _ S1.out).mono ?_
  rintro e w2 ⟨v, rfl, hown, hb⟩
  have B2 := Lib.hid (Below.then' B1.out hb)
  obtain ⟨a1, c1, rfl, his, _⟩ := isMakerS_own hown (fun s hs => sized_smallMaker s (HZ.out s (lineMk_in s hs)))
  have LL := lineMk_len xs id
  have S2 := Lib.hid his
  obtain ⟨L, hL⟩ : ∃ L, lineMk xs id = L := ⟨_, rfl⟩
  rw [hL] at S2 E LL ⊢
  clear hown his hb hL
  go_wp2
  go_loopw [18, 8] (fun i g wr => ∃ k : Nat, k ≤ L.length ∧ i = .int .i64 k ∧ g = .int .i64 (keep y (L.take k)) ∧ Below w.heap.size w wr ∧ Below w2.heap.size w2 wr) (fun i _ _ => L.length - (intOf i).toNat)
  case atStart => exact ⟨0, Nat.zero_le _, rfl, rfl, B2.out, Below.refl _ _⟩
  case round =>
    obtain ⟨k, hk, rfl, rfl, hbel, hbel2⟩ := hrel
    have B := Lib.hid hbel
    have BB := Lib.hid hbel2
    by_cases hlt : k < L.length
    · obtain ⟨s, hs⟩ : ∃ s, L[k]? = some s := ⟨L[k]'hlt, List.getElem?_eq_getElem _⟩
      obtain ⟨b, o, rfl, hbw, hat⟩ := (S2.out.below hbel2).at (by omega)
      obtain ⟨c0, c1, c2, c3, c4, _⟩ := hat k s hs
      have hi0 : (0 : Int) ≤ (k : Int) := by omega
      have hi1 : (k : Int) < (L.length : Int) := by omega
      have T := Lib.hid (show keep y (L.take (k + 1)) = if s.From ≤ y then s.Id else keep y (L.take k) from by rw [List.take_add_one, hs]; exact keep_snoc _ _ _)
      have BX := Lib.hid (Below.then' B.out (bel_al1 wr (.cells #[.int .i64 s.Id, .string s.Name, .int .i64 s.From, .int .i64 s.Until, .int .i64 s.Heir] 42)))
      have BX2 := Lib.hid (Below.then' BB.out (bel_al1 wr (.cells #[.int .i64 s.Id, .string s.Name, .int .i64 s.From, .int .i64 s.Until, .int .i64 s.Heir] 42)))
      obtain ⟨g, hg⟩ : ∃ g, keep y (L.take k) = g := ⟨_, rfl⟩
      rw [hg] at T ⊢
      clear hbel hbel2 hs hat hg
      by_cases hle : s.From ≤ y
      · rw [if_pos hle] at T
        go_wp2
        go_roundw
        case rel => exact ⟨k + 1, by omega, by go_num, by rw [T.out], BX.out, BX2.out⟩
        case measure => simp [intOf]; omega
      · rw [if_neg hle] at T
        have hlt2 : y < s.From := by omega
        go_wp2
        go_roundw
        case rel => exact ⟨k + 1, by omega, by go_num, by rw [T.out], BX.out, BX2.out⟩
        case measure => simp [intOf]; omega
    · obtain rfl : k = L.length := by omega
      rw [List.take_of_length_le (Nat.le_refl _), ← E.out]
      obtain ⟨g, hg⟩ : ∃ g, KeeperIn_0 xs id y = g := ⟨_, rfl⟩
      rw [hg]
      have G := Lib.hid hg
      clear hbel hbel2 hg
      go_wp2
      go_ret2
      exact ⟨by rw [K1.out, G.out]; rfl, B.out⟩
theorem act1_any (s : VMaker) (y : Int) (b : Nat) (w : World) (hc : w.cell? ⟨b, 0, none⟩ = some (.int .i64 y)) :
    Calls Try.prog 79 #[.agg #[.int .i64 s.Id, .string s.Name, .int .i64 s.From, .int .i64 s.Until, .int .i64 s.Heir], .pointer (some ⟨b, 0, none⟩)] w fun e w' => e = .returned (.bool (actB y s)) ∧ Below w.heap.size w w' := by
  have b1 := bel_al1 w (.cells #[.int .i64 s.Id, .string s.Name, .int .i64 s.From, .int .i64 s.Until, .int .i64 s.Heir] 42)
  have g := cell_stay' hc b1
  have B1 := Lib.hid b1
  clear hc b1
  go_enter Try.func79, Try.ntmps79
  go_wp2_with fail
  refine (areIn1 _ _ _ _ _ _ (by simp)).mono ?_
  rintro e w1 ⟨rfl, rfl⟩
  go_wp2
  go_ret
  exact ⟨rfl, Below.then' B1.out (bel_al1 _ _)⟩
set_option maxHeartbeats 3200000 in
set_option maxRecDepth 100000 in
theorem implActiveIn_any (a : Option Addr) (len cap : Nat) (xs : List VMaker) (y : Int) (w : World) (h : IsMakerS w a len cap xs) (_ : xs.length ≤ 1048576) (_ : ∀ s ∈ xs, s.sized) :
    Calls Try.prog 43 #[.slice a len cap, .int .i64 y] w (ActiveIn_Post xs y w) := by
  have b0 := bel_al1 w (.cells #[.int .i64 y] 3)
  have S := Lib.hid (h.below b0)
  have C := Lib.hid (cell_box' w (.int .i64 y) 3 _ rfl)
  have B0 := Lib.hid b0
  clear h b0
  obtain ⟨p, hp⟩ : ∃ p, areMk xs = p := ⟨_, rfl⟩
  obtain ⟨q, hq⟩ : ∃ q, yearB y = q := ⟨_, rfl⟩
  have PP := Lib.hid hp
  have QQ := Lib.hid hq
  clear hp hq
  go_enter Try.func43, Try.ntmps43
  go_wp2_with fail
  refine (areMk_any _ _ _ xs _ S.out).mono ?_
  rintro e w1 ⟨rfl, hb⟩
  rw [PP.out]
  have B1 := Lib.hid (Below.then' B0.out hb)
  have S1 := Lib.hid (S.out.below hb)
  have C1 := Lib.hid (cell_stay' C.out hb)
  clear hb
  cases p
  · have E0 := Lib.hid (show ActiveIn_0 xs y = [] from by unfold ActiveIn_0; rw [PP.out]; rfl)
    have E1 := Lib.hid (show ActiveIn_1 xs y = false from by unfold ActiveIn_1; rw [PP.out]; rfl)
    go_wp2
    go_ret2
    exact ⟨_, by rw [E1.out]; rfl, by rw [E0.out]; exact nil_ids _ _, B1.out⟩
  have c1 := C1.out
  go_wp2_with fail
  refine (isYear_any _ _).mono ?_
  rintro e w2 ⟨rfl, hb⟩
  rw [QQ.out]
  have B2 := Lib.hid (Below.then' B1.out hb)
  have S2 := Lib.hid (S1.out.below hb)
  have C2 := Lib.hid (cell_stay' C1.out hb)
  clear hb c1
  cases q
  · have E0 := Lib.hid (show ActiveIn_0 xs y = [] from by unfold ActiveIn_0; rw [PP.out, QQ.out]; rfl)
    have E1 := Lib.hid (show ActiveIn_1 xs y = false from by unfold ActiveIn_1; rw [PP.out, QQ.out]; rfl)
    go_wp2
    go_ret2
    exact ⟨_, by rw [E1.out]; rfl, by rw [E0.out]; exact nil_ids _ _, B2.out⟩
  have hl10 := areMk_len PP.out
  have E0 := Lib.hid (show ActiveIn_0 xs y = (xs.filter (actB y)).map VMaker.Id from by unfold ActiveIn_0; rw [PP.out, QQ.out]; rfl)
  have E1 := Lib.hid (show ActiveIn_1 xs y = true from by unfold ActiveIn_1; rw [PP.out, QQ.out]; rfl)
  go_wp2_with fail
  refine (idsWhereMaker_any 65 79 VMaker.Id #[.pointer (some ⟨w.heap.size, 0, none⟩)] (actB y) _ _ _ xs _ S2.out (by omega) (enters_fn Try.func65 (by kernel_rfl) (by kernel_rfl)) (enters_fn Try.func79 (by kernel_rfl) (by kernel_rfl)) (fun W s => makerId_any s W) (fun W s hs _ hW => by
    have h1 := act1_any s y w.heap.size W (cell_stay' C2.out hW)
    simpa using h1)).mono ?_
  rintro e w3 ⟨v, rfl, hown, hb⟩
  have B3 := Lib.hid (Below.then' B2.out hb)
  have O := Lib.hid (ownsRow_base hown B2.out.size)
  clear hb hown
  go_wp2
  go_ret2
  exact ⟨v, by rw [E1.out]; rfl, by rw [E0.out]; exact O.out, B3.out⟩
theorem heirIs_any (o m : VMaker) (b : Nat) (w : World) (hx : BoxMaker w b m) :
    Calls Try.prog 82 #[.agg #[.int .i64 o.Id, .string o.Name, .int .i64 o.From, .int .i64 o.Until, .int .i64 o.Heir], .pointer (some ⟨b, 0, none⟩)] w fun e w' => e = .returned (.bool (o.Heir == m.Id)) ∧ Below w.heap.size w w' := by
  have b1 := bel_al1 w (.cells #[.int .i64 o.Id, .string o.Name, .int .i64 o.From, .int .i64 o.Until, .int .i64 o.Heir] 42)
  obtain ⟨d0, _⟩ := hx.below b1
  clear hx
  go_enter Try.func82, Try.ntmps82
  go_wp2
  go_ret
  exact ⟨rfl, b1⟩
set_option maxHeartbeats 1600000 in
theorem founder1_any (s : VMaker) (a : Option Addr) (len cap : Nat) (xs : List VMaker) (b : Nat) (w : World) (hc : w.cell? ⟨b, 0, none⟩ = some (.slice a len cap)) (h : IsMakerS w a len cap xs) :
    Calls Try.prog 80 #[.agg #[.int .i64 s.Id, .string s.Name, .int .i64 s.From, .int .i64 s.Until, .int .i64 s.Heir], .pointer (some ⟨b, 0, none⟩)] w fun e w' => e = .returned (.bool (founderB xs s)) ∧ Below w.heap.size w w' := by
  have b1 := bel_al1 w (.cells #[.int .i64 s.Id, .string s.Name, .int .i64 s.From, .int .i64 s.Until, .int .i64 s.Heir] 42)
  have g := cell_stay' hc b1
  have S := Lib.hid (h.below b1)
  have X := Lib.hid (BoxMaker.new w 42 s _ rfl)
  have B1 := Lib.hid b1
  clear hc b1 h
  go_enter Try.func80, Try.ntmps80
  go_wp2_with fail
  refine (containsMaker_any 82 #[.pointer (some ⟨w.heap.size, 0, none⟩)] (fun o => o.Heir == s.Id) _ _ _ xs _ S.out (enters_fn Try.func82 (by kernel_rfl) (by kernel_rfl)) (fun W o _ hW => by
    have h1 := heirIs_any o s w.heap.size W (X.out.below hW)
    simpa using h1)).mono ?_
  rintro e w2 ⟨rfl, hb⟩
  have B2 := Lib.hid (Below.then' B1.out hb)
  have E := Lib.hid (show founderB xs s = !(xs.any fun o => o.Heir == s.Id) from rfl)
  obtain ⟨q, hq⟩ : ∃ q, (xs.any fun o => o.Heir == s.Id) = q := ⟨_, rfl⟩
  rw [hq] at E ⊢
  clear hb hq g
  go_wp2
  go_ret
  exact ⟨ret_bool E.out.symm, B2.out⟩
set_option maxHeartbeats 3200000 in
set_option maxRecDepth 100000 in
theorem implFounderIds_any (a : Option Addr) (len cap : Nat) (xs : List VMaker) (w : World) (h : IsMakerS w a len cap xs) (_ : xs.length ≤ 1048576) (_ : ∀ s ∈ xs, s.sized) :
    Calls Try.prog 45 #[.slice a len cap] w (FounderIds_Post xs w) := by
  have b0 := bel_al1 w (.cells #[.slice a len cap] 24)
  have S := Lib.hid (h.below b0)
  have C := Lib.hid (cell_box' w (.slice a len cap) 24 _ rfl)
  have B0 := Lib.hid b0
  clear h b0
  obtain ⟨p, hp⟩ : ∃ p, areMk xs = p := ⟨_, rfl⟩
  have PP := Lib.hid hp
  clear hp
  have c0 := C.out
  go_enter Try.func45, Try.ntmps45
  go_wp2_with fail
  refine (areMk_any _ _ _ xs _ S.out).mono ?_
  rintro e w1 ⟨rfl, hb⟩
  rw [PP.out]
  have B1 := Lib.hid (Below.then' B0.out hb)
  have S1 := Lib.hid (S.out.below hb)
  have C1 := Lib.hid (cell_stay' C.out hb)
  clear hb c0
  cases p
  · have E0 := Lib.hid (show FounderIds_0 xs = [] from by unfold FounderIds_0; rw [PP.out]; rfl)
    have E1 := Lib.hid (show FounderIds_1 xs = false from by unfold FounderIds_1; rw [PP.out])
    go_wp2
    go_ret2
    exact ⟨_, by rw [E1.out]; rfl, by rw [E0.out]; exact nil_ids _ _, B1.out⟩
  have c1 := C1.out
  have hl10 := areMk_len PP.out
  have E0 := Lib.hid (show FounderIds_0 xs = (xs.filter (founderB xs)).map VMaker.Id from by unfold FounderIds_0; rw [PP.out]; rfl)
  have E1 := Lib.hid (show FounderIds_1 xs = true from by unfold FounderIds_1; rw [PP.out])
  go_wp2_with fail
  refine (idsWhereMaker_any 65 80 VMaker.Id #[.pointer (some ⟨w.heap.size, 0, none⟩)] (founderB xs) _ _ _ xs _ S1.out (by omega) (enters_fn Try.func65 (by kernel_rfl) (by kernel_rfl)) (enters_fn Try.func80 (by kernel_rfl) (by kernel_rfl)) (fun W s => makerId_any s W) (fun W s hs _ hW => by
    have h1 := founder1_any s _ _ _ xs w.heap.size W (cell_stay' C1.out hW) (S1.out.below hW)
    simpa using h1)).mono ?_
  rintro e w3 ⟨v, rfl, hown, hb⟩
  have B3 := Lib.hid (Below.then' B1.out hb)
  have O := Lib.hid (ownsRow_base hown B1.out.size)
  clear hb hown
  go_wp2
  go_ret2
  exact ⟨v, by rw [E1.out]; rfl, by rw [E0.out]; exact O.out, B3.out⟩
end Go.Proofs.Ytpcibejmahhjiaa
namespace Go.Proofs.Ytpcibejmahhjiaa
open Go.RowKit
theorem resultsMaker1 {fn : Func} {tm : Array Value} {a b : Nat} {w : World} {s : VMaker} (hf : fn.results = #[.cell a 42]) (ha : tm.getD a undef = .pointer (some ⟨b, 0, none⟩)) (h : HBMaker w b s) :
    (results fn tm).run Try.prog w = .ok (.agg #[.int .i64 s.Id, .string s.Name, .int .i64 s.From, .int .i64 s.Until, .int .i64 s.Heir]) w := by
  obtain ⟨h0, h1, h2, h3, h4⟩ := h.cells
  simp only [Array.getD_eq_getD_getElem?] at ha
  simp [results, hf, ha, go_sem, h0, h1, h2, h3, h4]
theorem resultsMaker2 {fn : Func} {tm : Array Value} {a b c : Nat} {w : World} {s : VMaker} {v : Value} (hf : fn.results = #[.cell a 42, .tmp c]) (ha : tm.getD a undef = .pointer (some ⟨b, 0, none⟩)) (hc : tm.getD c undef = v) (h : HBMaker w b s) :
    (results fn tm).run Try.prog w = .ok (.tuple #[.agg #[.int .i64 s.Id, .string s.Name, .int .i64 s.From, .int .i64 s.Until, .int .i64 s.Heir], v]) w := by
  obtain ⟨h0, h1, h2, h3, h4⟩ := h.cells
  simp only [Array.getD_eq_getD_getElem?] at ha hc
  simp [results, hf, ha, hc, go_sem, h0, h1, h2, h3, h4]
end Go.Proofs.Ytpcibejmahhjiaa
namespace Go.Proofs.Ytpcibejmahhjiaa
open Go.RowKit
def zeroMaker : VMaker := ⟨0, ⟨#[]⟩, 0, 0, 0⟩
set_option maxHeartbeats 6400000 in
set_option maxRecDepth 100000 in
theorem maxFuncMaker_any (K : FuncId) (caps : Array Value) (cf : VMaker → VMaker → Int) (a : Option Addr) (len cap : Nat) (ys : List VMaker) (w : World) (h : IsMakerS w a len cap ys) (h0 : 0 < len)
    (hcall : ∀ args W, (callFunc K args).run Try.prog W = .ok (.enter K args) W)
    (hf : ∀ W x m, x ∈ ys → m ∈ ys → Below w.heap.size w W → Calls Try.prog K (#[.agg #[.int .i64 x.Id, .string x.Name, .int .i64 x.From, .int .i64 x.Until, .int .i64 x.Heir], .agg #[.int .i64 m.Id, .string m.Name, .int .i64 m.From, .int .i64 m.Until, .int .i64 m.Heir]] ++ caps) W fun e w' => e = .returned (.int .i64 (cf x m)) ∧ Below W.heap.size W w') :
    Calls Try.prog 85 #[.slice a len cap, .func (.func K) #[] caps] w fun e w' => (∃ s, s = pickB (fun x m => decide (0 < cf x m)) zeroMaker ys ∧ e = .returned (.agg #[.int .i64 s.Id, .string s.Name, .int .i64 s.From, .int .i64 s.Until, .int .i64 s.Heir])) ∧ Below w.heap.size w w' := by
  have hm := h.2.2.1
  have hcl := h.2.1
  unfold maxLen at hm
  have S := Lib.hid h
  have L := Lib.hid h.1
  have F := Lib.hid hf
  obtain ⟨b, o, rfl, hb0, hat0⟩ := h.at h0
  obtain ⟨s0, hs0⟩ := list_atMaker L h0
  have AT := Lib.hid (hat0 0 s0 hs0)
  have X0 := Lib.hid hs0
  have Z0 := Lib.hid ((HBMaker.new w zeroMaker _ rfl).alloc (.cells #[.int .i64 s0.Id, .string s0.Name, .int .i64 s0.From, .int .i64 s0.Until, .int .i64 s0.Heir] 42))
  have Z1 := Lib.hid (HBMaker.new (w.alloc (.cells #[.int .i64 zeroMaker.Id, .string zeroMaker.Name, .int .i64 zeroMaker.From, .int .i64 zeroMaker.Until, .int .i64 zeroMaker.Heir] 42)) s0 (w.heap.size + 1) (size_al _ _))
  have B0 := Lib.hid (bel_al2 w (.cells #[.int .i64 zeroMaker.Id, .string zeroMaker.Name, .int .i64 zeroMaker.From, .int .i64 zeroMaker.Until, .int .i64 zeroMaker.Heir] 42) (.cells #[.int .i64 s0.Id, .string s0.Name, .int .i64 s0.From, .int .i64 s0.Until, .int .i64 s0.Heir] 42))
  obtain ⟨c0, c1, c2, c3, c4, _⟩ := (AT.out).below (bel_al1 w (.cells #[.int .i64 0, .string ⟨#[]⟩, .int .i64 0, .int .i64 0, .int .i64 0] 42)) hb0
  have hl1 : ¬ (len : Int) < 1 := by omega
  have hl2 : (0 : Int) < (len : Int) := by omega
  simp only [Nat.zero_mul, Nat.add_zero] at c0 c1 c2 c3 c4
  obtain ⟨P, hP⟩ : ∃ P, (fun x m => decide (0 < cf x m)) = P := ⟨_, rfl⟩
  rw [hP]
  have HP := Lib.hid (show ∀ x m, decide (0 < cf x m) = P x m from fun x m => by rw [← hP])
  clear h hf hat0 hs0 hP
  go_enter Try.func85, Try.ntmps85
  go_wp2
  go_loopw [6] (fun i wr => ∃ k : Nat, 0 < k ∧ k ≤ len ∧ i = .int .i64 k ∧ HBMaker wr w.heap.size zeroMaker ∧ HBMaker wr (w.heap.size + 1) (pickB P zeroMaker (ys.take k)) ∧ Below w.heap.size w wr) (fun i _ => len - (intOf i).toNat)
  case atStart => exact ⟨1, by omega, by omega, rfl, Z0.out, by rw [take_one (k := 0) X0.out]; exact Z1.out, B0.out⟩
  case round =>
    obtain ⟨k, hk0, hk, rfl, hz0, hz1, hbel⟩ := hrel
    have BR := Lib.hid hbel
    have H0 := Lib.hid hz0
    have H1 := Lib.hid hz1
    clear c0 c1 c2 c3 c4
    by_cases hlt : k < len
    · obtain ⟨x, hx⟩ := list_atMaker L hlt
      obtain ⟨b', o', e', hb, hat⟩ := (S.out.below hbel).at (by omega)
      cases e'
      obtain ⟨c0, c1, c2, c3, c4, _⟩ := hat k x hx
      have AX := Lib.hid (hat k x hx)
      have hi0 : (0 : Int) ≤ (k : Int) := by omega
      have hi1 : (k : Int) < (len : Int) := by omega
      have PT := Lib.hid (pickB_take P zeroMaker hk0 hx)
      have MX := Lib.hid (List.mem_of_getElem? hx)
      have MM := Lib.hid (List.mem_of_mem_take (pickB_mem P zeroMaker (ys := ys) k hk0 (by have := L.out; omega)))
      obtain ⟨m, hm⟩ : ∃ m, pickB P zeroMaker (ys.take k) = m := ⟨_, rfl⟩
      rw [hm] at H1 PT MM
      obtain ⟨d0, d1, d2, d3, d4⟩ := H1.out.cells
      have PX := Lib.hid (HP.out x m)
      obtain ⟨v, hv⟩ : ∃ v, cf x m = v := ⟨_, rfl⟩
      rw [hv] at PX
      have VV := Lib.hid hv
      clear hbel hz0 hz1 hat hx hm hv
      go_wp2_with fail
      go_still_tail 6, (by kernel_rfl)
      change wpList _ _ _ _ _ wr.drew
      go_wp2_with fail
      refine (F.out wr.drew x m MX.out MM.out (bel_drew' BR.out)).mono ?_
      rintro e w1 ⟨rfl, hb1⟩
      rw [VV.out]
      have B1 := Lib.hid (Below.then' (bel_drew' BR.out) hb1)
      have Y1 := H1.out.drew.below hb1
      have Y0 := Lib.hid (H0.out.drew.below hb1)
      have hbx : Below wr.heap.size wr w1 := Below.then' (bel_drew' (Below.refl _ _)) hb1
      have A1 := Lib.hid (AX.out.below hbx hb)
      have Y2 := Lib.hid Y1
      clear c0 c1 c2 c3 c4 d0 d1 d2 d3 d4 hb1 hbx
      by_cases hvn : 0 < v
      · have PY := Lib.hid (show pickB P zeroMaker (ys.take (k + 1)) = x by rw [PT.out, ← PX.out, decide_eq_true hvn]; rfl)
        obtain ⟨c0, c1, c2, c3, c4, _⟩ := A1.out
        have e0 := Y1.free 0
        have e1 := Y1.free 1
        have e2 := Y1.free 2
        have e3 := Y1.free 3
        have e4 := Y1.free 4
        obtain ⟨f0, f1, f2, f3, f4⟩ := Y1.cells
        clear Y1
        go_wp2
        go_roundw
        case rel => exact ⟨k + 1, by omega, by omega, by go_num, Y0.out.otherAll (by omega) _ _ _ _ _, by rw [PY.out]; exact Y2.out.setAll x, (((((B1.out).setCell (by simp) _).setCell (by simp) _).setCell (by simp) _).setCell (by simp) _).setCell (by simp) _⟩
        case measure => simp [intOf]; omega
      · have PY := Lib.hid (show pickB P zeroMaker (ys.take (k + 1)) = m by rw [PT.out, ← PX.out, decide_eq_false hvn]; rfl)
        clear Y1
        go_wp2
        go_roundw
        case rel => exact ⟨k + 1, by omega, by omega, by go_num, Y0.out, by rw [PY.out]; exact Y2.out, B1.out⟩
        case measure => simp [intOf]; omega
    · obtain rfl : k = len := by omega
      have E : ys.take k = ys := List.take_of_length_le (by have := L.out; omega)
      rw [E] at H1
      obtain ⟨r, hr⟩ : ∃ r, pickB P zeroMaker ys = r := ⟨_, rfl⟩
      rw [hr] at H1
      have R := Lib.hid hr
      clear hbel hz0 hz1 E hr
      obtain ⟨d0, d1, d2, d3, d4⟩ := H1.out.cells
      have ZW := Lib.hid (H0.out.setAll r)
      obtain ⟨z0, z1, z2, z3, z4⟩ := H0.out.cells
      have f0 := H0.out.free 0
      have f1 := H0.out.free 1
      have f2 := H0.out.free 2
      have f3 := H0.out.free 3
      have f4 := H0.out.free 4
      go_wp2
      refine bodyPost_ret (resultsMaker1 rfl rfl ZW.out) rfl ⟨⟨r, R.out.symm, rfl⟩, ?_⟩
      exact (((((BR.out).setCell (by simp) _).setCell (by simp) _).setCell (by simp) _).setCell (by simp) _).setCell (by simp) _
def eqvMaker (s t : VMaker) : Bool := s.Id == t.Id && (s.Name == t.Name && (s.From == t.From && (s.Until == t.Until && (s.Heir == t.Heir))))
theorem bytes_beqMaker (a b : ByteArray) : (a == b) = true ↔ a = b := by
  rw [beq_toListBytes, ByteArray.toList_eq, ByteArray.toList_eq]
  obtain ⟨⟨x⟩⟩ := a
  obtain ⟨⟨y⟩⟩ := b
  simp
theorem eqvMaker_iff (s t : VMaker) : eqvMaker s t = true ↔ s = t := by
  obtain ⟨x0, x1, x2, x3, x4⟩ := s
  obtain ⟨y0, y1, y2, y3, y4⟩ := t
  simp [eqvMaker, bytes_beqMaker]
theorem eqlMaker (w : World) (s t : VMaker) : (binOp .eql 42 (.agg #[.int .i64 s.Id, .string s.Name, .int .i64 s.From, .int .i64 s.Until, .int .i64 s.Heir]) (.agg #[.int .i64 t.Id, .string t.Name, .int .i64 t.From, .int .i64 t.Until, .int .i64 t.Heir])).run Try.prog w = .ok (.bool (eqvMaker s t)) w := by
  rw [run_eql_struct, run_equalIn_agg _ _ _ _ _ (by kernel_rfl) (by kernel_rfl)]
  have hu : Try.prog.underlying 42 = _ := Try.underlying42
  unfold Program.fieldsOf
  rw [hu]
  have e1 := Try.underlying3
  have e2 := Try.underlying9
  cases h0 : (s.Id == t.Id)
  · simp [eqvMaker, Op.eqFields, go_sem, e1, e2, h0, ← beq_toListBytes]
  cases h1 : (s.Name == t.Name)
  · simp [eqvMaker, Op.eqFields, go_sem, e1, e2, h0, h1, ← beq_toListBytes]
  cases h2 : (s.From == t.From)
  · simp [eqvMaker, Op.eqFields, go_sem, e1, e2, h0, h1, h2, ← beq_toListBytes]
  cases h3 : (s.Until == t.Until)
  · simp [eqvMaker, Op.eqFields, go_sem, e1, e2, h0, h1, h2, h3, ← beq_toListBytes]
  cases h4 : (s.Heir == t.Heir)
  · simp [eqvMaker, Op.eqFields, go_sem, e1, e2, h0, h1, h2, h3, h4, ← beq_toListBytes]
  simp [eqvMaker, Op.eqFields, go_sem, e1, e2, h0, h1, h2, h3, h4, ← beq_toListBytes]
set_option maxHeartbeats 3200000 in
set_option maxRecDepth 100000 in
theorem indexMaker_any (a : Option Addr) (len cap : Nat) (xs : List VMaker) (x : VMaker) (w : World) (h : IsMakerS w a len cap xs) :
    Calls Try.prog 94 #[.slice a len cap, .agg #[.int .i64 x.Id, .string x.Name, .int .i64 x.From, .int .i64 x.Until, .int .i64 x.Heir]] w fun e w' => e = .returned (.int .i64 (firstOf (eqvMaker x) xs)) ∧ Below w.heap.size w w' := by
  have hm := h.2.2.1
  have hcl := h.2.1
  unfold maxLen at hm
  obtain rfl := h.1
  have B0 := Lib.hid (bel_al1 w (.cells #[.int .i64 x.Id, .string x.Name, .int .i64 x.From, .int .i64 x.Until, .int .i64 x.Heir] 42))
  have S := Lib.hid (h.below B0.out)
  have X0 := Lib.hid (BoxMaker.new w 42 x _ rfl)
  clear h
  go_enter Try.func94, Try.ntmps94
  go_wp2
  go_loopw [8, 5] (fun i _ wr => ∃ k : Nat, k ≤ xs.length ∧ i = .int .i64 k ∧ Below w.heap.size w wr ∧ BoxMaker wr w.heap.size x ∧ IsMakerS wr a xs.length cap xs ∧ ∀ (j : Nat) t, j < k → xs[j]? = some t → eqvMaker x t = false) (fun i _ _ => xs.length - (intOf i).toNat)
  case atStart => exact ⟨0, Nat.zero_le _, rfl, B0.out, X0.out, S.out, fun _ _ h => by omega⟩
  case round =>
    obtain ⟨k, hk, rfl, hbel, hbox, his, hall⟩ := hrel
    have B := Lib.hid hbel
    have A := Lib.hid hall
    have X1 := Lib.hid hbox
    have S1 := Lib.hid his
    clear hall
    by_cases hlt : k < xs.length
    · obtain ⟨s, hs⟩ : ∃ s, xs[k]? = some s := ⟨xs[k]'hlt, List.getElem?_eq_getElem _⟩
      obtain ⟨b, o, rfl, hbw, hat⟩ := his.at (by omega)
      obtain ⟨c0, c1, c2, c3, c4, _⟩ := hat k s hs
      obtain ⟨d0, d1, d2, d3, d4⟩ := hbox
      have K := Lib.hid hs
      have hi0 : (0 : Int) ≤ (k : Int) := by omega
      have hi1 : (k : Int) < (xs.length : Int) := by omega
      obtain ⟨r, hr⟩ : ∃ r, eqvMaker x s = r := ⟨_, rfl⟩
      have R := Lib.hid hr
      have heq : ∀ W : World, (binOp .eql 42 (.agg #[.int .i64 x.Id, .string x.Name, .int .i64 x.From, .int .i64 x.Until, .int .i64 x.Heir]) (.agg #[.int .i64 s.Id, .string s.Name, .int .i64 s.From, .int .i64 s.Until, .int .i64 s.Heir])).run Try.prog W = .ok (.bool r) W := fun W => by rw [← hr]; exact eqlMaker W x s
      clear hbel hs hat hr his
      go_wp2
      go_quiet (fail)
      have bd := bel_drawn wr nq
      have B1 := Lib.hid (Below.then' B.out bd)
      have X2 := Lib.hid (X1.out.below bd)
      have S2 := Lib.hid (S1.out.below bd)
      clear bd c0 c1 c2 c3 c4 d0 d1 d2 d3 d4 heq
      cases r
      · go_wp2
        go_roundw
        case rel => exact ⟨k + 1, by omega, by go_num, B1.out, X2.out, S2.out, fun j t hj ht => by
          by_cases e : j = k
          · subst e; rw [K.out] at ht; cases ht; exact R.out
          · exact A.out j t (by omega) ht⟩
        case measure => simp [intOf]; omega
      · have E := Lib.hid (firstOf_at K.out R.out A.out)
        go_wp2
        go_ret
        exact ⟨ret_int E.out.symm, B1.out⟩
    · obtain rfl : k = xs.length := by omega
      have E := Lib.hid (firstOf_no (f := eqvMaker x) (xs := xs) A.out)
      clear hbel hbox his
      go_wp2
      go_ret
      exact ⟨ret_int E.out.symm, B.out⟩
set_option maxHeartbeats 1600000 in
theorem hasMaker_any (a : Option Addr) (len cap : Nat) (xs : List VMaker) (x : VMaker) (w : World) (h : IsMakerS w a len cap xs) :
    Calls Try.prog 59 #[.slice a len cap, .agg #[.int .i64 x.Id, .string x.Name, .int .i64 x.From, .int .i64 x.Until, .int .i64 x.Heir]] w fun e w' => e = .returned (.bool (decide (0 ≤ firstOf (eqvMaker x) xs))) ∧ Below w.heap.size w w' := by
  have B0 := Lib.hid (bel_al1 w (.cells #[.int .i64 x.Id, .string x.Name, .int .i64 x.From, .int .i64 x.Until, .int .i64 x.Heir] 42))
  have S := Lib.hid (h.below B0.out)
  have X0 := Lib.hid (BoxMaker.new w 42 x _ rfl)
  obtain ⟨d0, d1, d2, d3, d4⟩ := X0.out
  clear h
  obtain ⟨z, hz⟩ : ∃ z, firstOf (eqvMaker x) xs = z := ⟨_, rfl⟩
  have Z := Lib.hid hz
  rw [hz]
  clear hz
  go_enter Try.func59, Try.ntmps59
  go_wp2_with fail
  refine (indexMaker_any _ _ _ xs x _ S.out).mono ?_
  rintro e w1 ⟨rfl, hb⟩
  rw [Z.out]
  have B1 := Lib.hid (Below.then' B0.out hb)
  clear hb d0 d1 d2 d3 d4
  go_wp2
  go_ret
  exact ⟨rfl, B1.out⟩
end Go.Proofs.Ytpcibejmahhjiaa
namespace Go.Proofs.Ytpcibejmahhjiaa
open Go.RowKit

theorem str_clone (s : ByteArray) (w : World) (hs : s.size ≤ 1048576) :
    Calls Try.prog 99 #[.string s] w fun e w' => e = .returned (.string s) ∧ Below w.heap.size w w' := by
  go_enter Try.func99, Try.ntmps99
  go_wp2_with (go_at_call 105; refine (Try.stringslite_Clone _ _ (by omega)).mono ?_; rintro e w' ⟨rfl, hb⟩)
  go_ret
  exact ⟨rfl, hb⟩
end Go.Proofs.Ytpcibejmahhjiaa
