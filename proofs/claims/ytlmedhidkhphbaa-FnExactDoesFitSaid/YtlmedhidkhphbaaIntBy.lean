/- Is a list at most so long, each element valid, all in strictly ascending order of a number? The program's isListById at int. (made by genby.py) -/
import Derived.Test.YtlmedhidkhphbaaInts
import Derived.Test.YtlmedhidkhphbaaSw
namespace Go.Proofs.Ytlmedhidkhphbaa
open Go.RowKit

set_option maxHeartbeats 12800000 in
set_option maxRecDepth 100000 in
theorem byint_any (K1 K2 : FuncId) (ok : Int → Bool) (id : Int → Int) (limit : Int) (a : Option Addr) (len cap : Nat) (xs : List Int) (w : World) (h : IsInts w a len cap xs)
    (hc1 : ∀ args W, (callFunc K1 args).run Try.prog W = .ok (.enter K1 args) W) (hc2 : ∀ args W, (callFunc K2 args).run Try.prog W = .ok (.enter K2 args) W)
    (h1 : ∀ (W : World) (s : Int), s ∈ xs → Calls Try.prog K1 #[.int .i64 s] W fun e w' => e = .returned (.bool (ok s)) ∧ Below W.heap.size W w')
    (h2 : ∀ (W : World) (s : Int), Calls Try.prog K2 #[.int .i64 s] W fun e w' => e = .returned (.int .i64 (id s)) ∧ Below W.heap.size W w') :
    Calls Try.prog 135 #[.slice a len cap, .int .i64 limit, .func (.func K1) #[] #[], .func (.func K2) #[] #[]] w fun e w' => e = .returned (.bool (upB ok id xs && decide ((xs.length : Int) ≤ limit))) ∧ Below w.heap.size w w' := by
  have hm := h.2.2.1
  have hcl := h.2.1
  unfold maxLen at hm
  have S := Lib.hid h
  have L := Lib.hid h.1
  have F1 := Lib.hid h1
  have F2 := Lib.hid h2
  clear h h1 h2
  by_cases hl : limit < (len : Int)
  · go_enter Try.func135, Try.ntmps135
    go_wp2
    go_ret
    exact ⟨ret_bool (by have e := L.out; rw [decide_eq_false (by omega)]; simp), Below.refl _ _⟩
  go_enter Try.func135, Try.ntmps135
  go_wp2
  go_loopw [17] (fun i wr => ∃ k : Nat, k ≤ len ∧ i = .int .i64 k ∧ Below w.heap.size w wr ∧ ∀ j, j < k → upStep ok id xs j = true) (fun i _ => len - (intOf i).toNat)
  case atStart => exact ⟨0, Nat.zero_le _, rfl, Below.refl _ _, by omega⟩
  case round =>
    obtain ⟨k, hk, rfl, hbel, hall⟩ := hrel
    have A := Lib.hid hall
    have B := Lib.hid hbel
    clear hall
    by_cases hlt : k < len
    · obtain ⟨s, hs⟩ := el_at L hlt
      obtain ⟨b, o, rfl, hb, hat⟩ := (S.out.below hbel).at (by omega)
      have c0 := hat k s hs
      have AT := Lib.hid hat
      have K := Lib.hid hs
      have hi0 : (0 : Int) ≤ (k : Int) := by omega
      have hi1 : (k : Int) < (len : Int) := by omega
      clear hs hat hbel
      rcases up_ways (ok := ok) (id := id) K.out with ⟨h1, h2⟩ | ⟨h1, rfl, h2⟩ | ⟨h1, j, p, rfl, hp, h2⟩
      · have Z := Lib.hid h2
        have H1 := Lib.hid h1
        clear h1 h2
        go_wp2_with fail
        refine (F1.out _ s (List.mem_of_getElem? K.out)).mono ?_
        rintro e w2 ⟨rfl, hb2⟩
        rw [H1.out]
        have B2 := Lib.hid (Below.then' B.out hb2)
        clear hb2
        go_wp2
        go_ret
        exact ⟨ret_bool (by rw [upB_bad Z.out (by have := L.out; omega)]; rfl), B2.out⟩
      · have Z := Lib.hid h2
        have H1 := Lib.hid h1
        rw [Nat.add_zero] at c0
        clear h1 h2
        go_wp2_with fail
        refine (F1.out _ s (List.mem_of_getElem? K.out)).mono ?_
        rintro e w2 ⟨rfl, hb2⟩
        rw [H1.out]
        have B2 := Lib.hid (Below.then' B.out hb2)
        clear hb2
        go_wp2
        go_roundw
        case rel => exact ⟨1, by omega, by go_num, B2.out, all_more A.out Z.out⟩
        case measure => simp [intOf]; omega
      · have H1 := Lib.hid h1
        have pc := AT.out j p hp
        have PC := Lib.hid pc
        obtain ⟨u, hu⟩ : ∃ u, id p = u := ⟨_, rfl⟩
        obtain ⟨v, hv⟩ : ∃ v, id s = v := ⟨_, rfl⟩
        rw [hu, hv] at h2
        have HU := Lib.hid hu
        have HV := Lib.hid hv
        have hp0 : (0 : Int) ≤ (j : Int) := by omega
        have hp1 : (j : Int) < (len : Int) := by omega
        clear h1 hp hu hv pc
        go_wp2_with fail
        refine (F1.out _ s (List.mem_of_getElem? K.out)).mono ?_
        rintro e w2 ⟨rfl, hb2⟩
        rw [H1.out]
        have B2 := Lib.hid (Below.then' B.out hb2)
        have pc := (hb2.cell (p := ⟨b, o + j, none⟩) hb).trans PC.out
        clear hb2
        go_wp2_with fail
        refine (F2.out _ p).mono ?_
        rintro e w3 ⟨rfl, hb3⟩
        rw [HU.out]
        have B3 := Lib.hid (Below.then' B2.out hb3)
        clear hb3 pc
        go_wp2_with fail
        refine (F2.out _ s).mono ?_
        rintro e w4 ⟨rfl, hb4⟩
        rw [HV.out]
        have B4 := Lib.hid (Below.then' B3.out hb4)
        clear hb4
        rcases h2 with ⟨h2, h3⟩ | ⟨h2, h3⟩
        · have Z := Lib.hid h3
          clear h3
          go_wp2
          go_roundw
          case rel => exact ⟨j + 1 + 1, by omega, by go_num, B4.out, all_more A.out Z.out⟩
          case measure => simp [intOf]; omega
        · have Z := Lib.hid h3
          clear h3
          go_wp2
          go_ret
          exact ⟨ret_bool (by rw [upB_bad Z.out (by have := L.out; omega)]; rfl), B4.out⟩
    · obtain rfl : k = len := by omega
      have U := Lib.hid (show (upB ok id xs && decide ((xs.length : Int) ≤ limit)) = true from by
        rw [upB_iff.2 (fun i hi => A.out i (by have := L.out; omega)), decide_eq_true (by have := L.out; omega)]; rfl)
      clear hbel
      go_wp2
      go_ret
      exact ⟨ret_bool U.out.symm, B.out⟩
end Go.Proofs.Ytlmedhidkhphbaa
