/- Searches by a number and collecting numbers: the program's indexOfId and idsWhere at Loan. (made by genid.py) -/
import Derived.Test.YtffbljbgmgifnaaLoanL
import Derived.Test.YtffbljbgmgifnaaSw
import Derived.Test.YtffbljbgmgifnaaWh
namespace Go.Proofs.Ytffbljbgmgifnaa
open Go.RowKit

set_option maxHeartbeats 6400000 in
set_option maxRecDepth 100000 in
theorem idsWhereLoan_any (K1 K : FuncId) (idf : VLoan → Int) (caps : Array Value) (f : VLoan → Bool) (a : Option Addr) (len cap : Nat) (xs : List VLoan) (w : World) (h : IsLoanS w a len cap xs) (hl : xs.length ≤ 100000)
    (hcall1 : ∀ args W, (callFunc K1 args).run Try.prog W = .ok (.enter K1 args) W) (hcall : ∀ args W, (callFunc K args).run Try.prog W = .ok (.enter K args) W)
    (hi1 : ∀ (W : World) (s : VLoan), Calls Try.prog K1 #[.agg #[.int .i64 s.Sheet, .int .i64 s.Reader, .int .i64 s.Out, .int .i64 s.Due, .int .i64 s.Back]] W fun e w' => e = .returned (.int .i64 (idf s)) ∧ Below W.heap.size W w')
    (hf : ∀ (W : World) (s : VLoan), s ∈ xs → Below w.heap.size w W → Calls Try.prog K (#[.agg #[.int .i64 s.Sheet, .int .i64 s.Reader, .int .i64 s.Out, .int .i64 s.Due, .int .i64 s.Back]] ++ caps) W fun e w' => e = .returned (.bool (f s)) ∧ Below W.heap.size W w') :
    Calls Try.prog 140 #[.slice a len cap, .func (.func K1) #[] #[], .func (.func K) #[] caps] w (IdsOwn ((xs.filter f).map idf) w) := by
  obtain rfl := h.1
  obtain ⟨i0, hi, hz0, hz1, hz2⟩ := info_parts infoInt
  have hm := h.2.2.1
  have hcl := h.2.1
  unfold maxLen at hm
  have S := Lib.hid h
  have F := Lib.hid hf
  have F1 := Lib.hid hi1
  clear h hf hi1
  go_enter Try.func140, Try.ntmps140
  go_wp2
  go_loopw [12, 7] (fun i o wr => ∃ k : Nat, k ≤ xs.length ∧ i = .int .i64 k ∧ wr.ownsRow w.heap.size 3 1 o (((xs.take k).filter f).map idf).length (intCells (((xs.take k).filter f).map idf)) ∧ Below w.heap.size w wr) (fun i _ _ => xs.length - (intOf i).toNat)
  case atStart => exact ⟨0, Nat.zero_le _, rfl, ⟨by simp [intCells], .inl ⟨rfl, rfl⟩⟩, Below.refl _ _⟩
  case round =>
    obtain ⟨k, hk, rfl, hown, hbel⟩ := hrel
    have B := Lib.hid hbel
    by_cases hlt : k < xs.length
    · obtain ⟨s, hs⟩ : ∃ s, xs[k]? = some s := ⟨xs[k]'hlt, List.getElem?_eq_getElem _⟩
      obtain ⟨b, o, rfl, hbw, hat⟩ := (S.out.below hbel).at (by omega)
      obtain ⟨c0, c1, c2, c3, c4⟩ := hat k s hs
      have FS := Lib.hid (where_more f idf hs)
      have hgl := where_len f idf xs k
      obtain ⟨G, hG⟩ : ∃ G, ((xs.take k).filter f).map idf = G := ⟨_, rfl⟩
      rw [hG] at hown FS hgl
      have O := Lib.hid hown
      obtain ⟨r, hr⟩ : ∃ r, f s = r := ⟨_, rfl⟩
      have RR := Lib.hid hr
      obtain ⟨y, hy⟩ : ∃ y, idf s = y := ⟨_, rfl⟩
      have YY := Lib.hid hy
      have bw := wh_al1 wr (.cells #[.int .i64 s.Sheet, .int .i64 s.Reader, .int .i64 s.Out, .int .i64 s.Due, .int .i64 s.Back] 101)
      have BX := Lib.hid (BoxLoan.new wr 101 s _ rfl)
      have BW := Lib.hid bw
      have K1' := Lib.hid hs
      have hi0 : (0 : Int) ≤ (k : Int) := by omega
      have hi1 : (k : Int) < (xs.length : Int) := by omega
      have hsz := B.out.size
      clear hs hat hbel hG hr hy hown bw
      go_wp2_with fail
      refine (F.out _ s (List.mem_of_getElem? K1'.out) (Below.then' B.out BW.out)).mono ?_
      rintro e w2 ⟨rfl, hb⟩
      rw [RR.out]
      have hb' := Below.then' BW.out hb
      have B2 := Lib.hid (Below.then' B.out hb')
      have O2 := Lib.hid (ownsRow_below O.out hb')
      have BX2 := Lib.hid (BX.out.below hb)
      have hs2 := hb'.size
      clear hb hb' c0 c1 c2 c3 c4
      cases r
      · go_wp2
        go_roundw
        case rel => exact ⟨k + 1, by omega, by go_num, by rw [FS.out, RR.out]; simpa using O2.out, B2.out⟩
        case measure => simp [intOf]; omega
      · obtain ⟨e0, e1, e2, e3, e4⟩ := BX2.out
        go_wp2_with fail
        refine (F1.out _ s).mono ?_
        rintro e w3 ⟨rfl, hb⟩
        rw [YY.out]
        have B3 := Lib.hid (Below.then' B2.out hb)
        have hown3 := (ownsRow_below O2.out hb).alloc (.cells #[.int .i64 y] 3)
        have hs3 := hb.size
        clear hb e0 e1 e2 e3 e4
        go_wp2_with (at_builtin; refine wpList_append_own _ rfl _ _ 49 rfl w.heap.size 3 i0 (.int .i64 0) 1 8 Try.underlying49 hi hz0 hz1 hz2 rfl (by decide) _ _ _ rfl hown3 ⟨w3.heap.size, 0, none⟩ 1 1 [.int .i64 y] rfl rfl (cell_one _ _ _) (fun x hx => by simp at hx; subst hx; rfl) (by unfold maxLen; omega) (by omega) (by simp; omega) ?_; intro v' w4 hown' hgrow4 hnil4)
        go_roundw
        case rel =>
          refine ⟨k + 1, by omega, by go_num, ?_, (Below.then' B3.out (wh_al1 _ _)).grown hgrow4 (by simp; omega) (fun j e => (hown3.lt j e).1)⟩
          rw [FS.out, RR.out, if_pos rfl, YY.out, intCells_snoc]
          rw [List.length_append]
          exact hown'
        case measure => simp [intOf]; omega
    · obtain rfl : k = xs.length := by omega
      rw [List.take_of_length_le (Nat.le_refl _)] at hown
      have O := Lib.hid hown
      clear hbel hown
      go_wp2
      go_ret
      exact ⟨_, rfl, O.out, B.out⟩
end Go.Proofs.Ytffbljbgmgifnaa
