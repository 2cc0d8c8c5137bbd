/- Where a sheet stands in a list, in the model: l2At, l2Find. -/
import Derived.Test.YtidaoijpbdljbaaShs
import Derived.Test.YtidaoijpbdljbaaShMath
namespace Go.Proofs.Ytidaoijpbdljbaa
open Go.RowKit

theorem list_at {xs : List Sh} {len k : Nat} (hl : Hid (len = xs.length)) (hk : k < len) : ∃ s, xs[k]? = some s := ⟨xs[k]'(by have := hl.out; omega), List.getElem?_eq_getElem _⟩
theorem lt_snoc {P : Nat → Sh → Prop} {xs : List Sh} {k : Nat} {s : Sh} (hs : xs[k]? = some s) (h : ∀ (j : Nat) t, j < k → xs[j]? = some t → P j t) (h1 : P k s) : ∀ (j : Nat) t, j < k + 1 → xs[j]? = some t → P j t := by
  intro j t hj ht
  by_cases e : j = k
  · subst e; rw [hs] at ht; cases ht; exact h1
  · exact h j t (by omega) ht

set_option maxHeartbeats 1600000 in
set_option maxRecDepth 100000 in
theorem l2At_any (a : Option Addr) (len cap : Nat) (xs : List Sh) (r c sc : Int) (w : World) (h : IsSheetS w a len cap xs) :
    Calls Try.prog 62 #[.slice a len cap, .int .i64 r, .int .i64 c, .int .i64 sc] w fun e w' => e = .returned (.int .i64 (idxAt xs r c sc)) ∧ w = w' := by
  have hm := h.2.2.1
  have hcl := h.2.1
  unfold maxLen at hm
  have S := Lib.hid h
  have L := Lib.hid h.1
  clear h
  go_enter Try.func62, Try.ntmps62
  go_wp2
  go_loop [9] (fun i => ∃ k : Nat, k ≤ len ∧ i = .int .i64 k ∧ ∀ (j : Nat) t, j < k → xs[j]? = some t → t.at_ r c sc = false) (fun i => len - (intOf i).toNat)
  case atStart => exact ⟨0, Nat.zero_le _, rfl, by omega⟩
  case round =>
    obtain ⟨k, hk, rfl, hall⟩ := hrel
    have A := Lib.hid hall
    clear hall
    by_cases hlt : k < len
    · obtain ⟨s, hs⟩ := list_at L hlt
      obtain ⟨b, o, rfl, hb, hat⟩ := S.out.at (by omega)
      obtain ⟨c0, c1, c2, c3, c4⟩ := hat k s hs
      have K := Lib.hid hs
      clear hs hat
      by_cases hf : s.at_ r c sc = true
      · obtain ⟨rfl, rfl, rfl⟩ := Sh.at_iff.1 hf
        have F := Lib.hid hf
        clear hf
        go_wp2
        go_ret
        exact ⟨ret_int (idxOf_at K.out F.out A.out).symm, rfl⟩
      · have hf' : s.at_ r c sc = false := by simpa using hf
        have F := Lib.hid hf'
        have hne : ¬ (s.row = r ∧ s.col = c ∧ s.scale = sc) := fun h => hf (Sh.at_iff.2 h)
        clear hf hf'
        by_cases h1 : s.row = r
        · by_cases h2 : s.col = c
          · have h3 : ¬ s.scale = sc := fun h => hne ⟨h1, h2, h⟩
            clear hne
            subst h1 h2
            go_wp2
            go_round
            case rel => exact ⟨k + 1, by omega, by go_num, lt_snoc K.out A.out F.out⟩
            case measure => simp [intOf]; omega
          · clear hne
            subst h1
            go_wp2
            go_round
            case rel => exact ⟨k + 1, by omega, by go_num, lt_snoc K.out A.out F.out⟩
            case measure => simp [intOf]; omega
        · clear hne
          go_wp2
          go_round
          case rel => exact ⟨k + 1, by omega, by go_num, lt_snoc K.out A.out F.out⟩
          case measure => simp [intOf]; omega
    · obtain rfl : k = len := by omega
      go_wp2
      go_ret
      refine ⟨ret_int (idxOf_none fun s hs => ?_).symm, rfl⟩
      obtain ⟨j, hj⟩ := List.getElem?_of_mem hs
      exact A.out j s (by have := (List.getElem?_eq_some_iff.1 hj).1; have := L.out; omega) hj

/-- Where the sheet with an id stands, or -1. -/
def idxId (xs : List Sh) (id : Int) : Int := idxOf (fun s => s.id == id) xs
set_option maxHeartbeats 1600000 in
set_option maxRecDepth 100000 in
theorem l2Find_any (a : Option Addr) (len cap : Nat) (xs : List Sh) (id : Int) (w : World) (h : IsSheetS w a len cap xs) :
    Calls Try.prog 55 #[.slice a len cap, .int .i64 id] w fun e w' => e = .returned (.int .i64 (idxId xs id)) ∧ w = w' := by
  have hm := h.2.2.1
  have hcl := h.2.1
  unfold maxLen at hm
  have S := Lib.hid h
  have L := Lib.hid h.1
  clear h
  go_enter Try.func55, Try.ntmps55
  go_wp2
  go_loop [5] (fun i => ∃ k : Nat, k ≤ len ∧ i = .int .i64 k ∧ ∀ (j : Nat) t, j < k → xs[j]? = some t → (t.id == id) = false) (fun i => len - (intOf i).toNat)
  case atStart => exact ⟨0, Nat.zero_le _, rfl, by omega⟩
  case round =>
    obtain ⟨k, hk, rfl, hall⟩ := hrel
    have A := Lib.hid hall
    clear hall
    by_cases hlt : k < len
    · obtain ⟨s, hs⟩ := list_at L hlt
      obtain ⟨b, o, rfl, hb, hat⟩ := S.out.at (by omega)
      obtain ⟨c0, c1, c2, c3, c4⟩ := hat k s hs
      have K := Lib.hid hs
      clear hs hat
      by_cases hf : s.id = id
      · subst hf
        go_wp2
        go_ret
        exact ⟨ret_int (idxOf_at K.out (by simp) A.out).symm, rfl⟩
      · have F := Lib.hid (show (s.id == id) = false from by simpa using hf)
        go_wp2
        go_round
        case rel => exact ⟨k + 1, by omega, by go_num, lt_snoc K.out A.out F.out⟩
        case measure => simp [intOf]; omega
    · obtain rfl : k = len := by omega
      go_wp2
      go_ret
      refine ⟨ret_int (idxOf_none fun s hs => ?_).symm, rfl⟩
      obtain ⟨j, hj⟩ := List.getElem?_of_mem hs
      exact A.out j s (by have := (List.getElem?_eq_some_iff.1 hj).1; have := L.out; omega) hj
end Go.Proofs.Ytidaoijpbdljbaa
