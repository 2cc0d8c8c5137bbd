/- Loans in the model: the favorite sheet. -/
import Derived.Test.YtffbljbgmgifnaaLos2
import Derived.Test.YtffbljbgmgifnaaFavoriteSheetP
namespace Go.Proofs.Ytffbljbgmgifnaa
open Go.RowKit

theorem times_more {xs : List VLoan} {sh : Int} {k : Nat} {s : VLoan} (hs : xs[k]? = some s) : timesL (xs.take (k + 1)) sh = timesL (xs.take k) sh + if s.Sheet = sh then 1 else 0 := by
  unfold timesL
  rw [take_one hs, List.filter_append, List.length_append]
  by_cases e : s.Sheet = sh
  · simp [e]
  · simp [e]
theorem times_bd (ys : List VLoan) (sh : Int) : 0 ≤ timesL ys sh ∧ timesL ys sh ≤ (ys.length : Int) := by
  unfold timesL
  have := List.length_filter_le (fun l : VLoan => l.Sheet == sh) ys
  omega
theorem times_pos {xs : List VLoan} {s : VLoan} (h : s ∈ xs) : 1 ≤ timesL xs s.Sheet := by
  unfold timesL
  have : 0 < (xs.filter fun l => l.Sheet == s.Sheet).length := List.length_pos_of_mem (List.mem_filter.2 ⟨h, by simp⟩)
  omega
def FavTo (xs : List VLoan) (k : Nat) (bv mv : Int) : Prop := (k = 0 ∧ bv = 0 ∧ mv = 0) ∨ (0 < k ∧ bv = (pickB (favB xs) ⟨0, 0, 0, 0, 0⟩ (xs.take k)).Sheet ∧ mv = timesL xs (pickB (favB xs) ⟨0, 0, 0, 0, 0⟩ (xs.take k)).Sheet)
theorem favB_iff (xs : List VLoan) (x m : VLoan) : favB xs x m = true ↔ timesL xs m.Sheet < timesL xs x.Sheet ∨ (timesL xs m.Sheet = timesL xs x.Sheet ∧ x.Sheet < m.Sheet) := by simp [favB]
theorem fav_yes {xs : List VLoan} {k : Nat} {s : VLoan} {bv mv : Int} (hs : xs[k]? = some s) (h : FavTo xs k bv mv) (hy : mv < timesL xs s.Sheet ∨ (mv = timesL xs s.Sheet ∧ s.Sheet < bv)) : FavTo xs (k + 1) s.Sheet (timesL xs s.Sheet) := by
  refine .inr ⟨by omega, ?_⟩
  rcases h with ⟨rfl, _, _⟩ | ⟨h0, rfl, rfl⟩
  · rw [show (0 : Nat) + 1 = 0 + 1 from rfl, take_one hs]; exact ⟨rfl, rfl⟩
  · rw [pickB_take _ _ h0 hs, if_pos ((favB_iff _ _ _).2 hy)]; exact ⟨rfl, rfl⟩
theorem fav_no {xs : List VLoan} {k : Nat} {s : VLoan} {bv mv : Int} (hs : xs[k]? = some s) (h : FavTo xs k bv mv) (h1 : ¬ mv < timesL xs s.Sheet) (h2 : ¬ (mv = timesL xs s.Sheet ∧ s.Sheet < bv)) : FavTo xs (k + 1) bv mv := by
  rcases h with ⟨rfl, _, rfl⟩ | ⟨h0, rfl, rfl⟩
  · have := times_pos (List.mem_of_getElem? hs); omega
  · refine .inr ⟨by omega, ?_⟩
    rw [pickB_take _ _ h0 hs, if_neg (fun e => ((favB_iff _ _ _).1 e).elim h1 h2)]; exact ⟨rfl, rfl⟩
set_option maxHeartbeats 12800000 in
set_option maxRecDepth 100000 in
theorem specFavoriteSheet_any (a : Option Addr) (len cap : Nat) (xs : List VLoan) (w : World) (h : IsLoanS w a len cap xs) (_ : xs.length ≤ 1048576) :
    Calls Try.prog 62 #[.slice a len cap] w (FavoriteSheet_Post xs w) := by
  have hm := h.2.2.1
  have hcl := h.2.1
  unfold maxLen at hm
  obtain rfl := h.1
  have S := Lib.hid h
  clear h
  obtain ⟨q, hq⟩ : ∃ q, areLo xs = q := ⟨_, rfl⟩
  have Q := Lib.hid hq
  clear hq
  by_cases h0 : xs = []
  · subst h0
    have E := Lib.hid (show FavoriteSheet_1 ([] : List VLoan) = false from by unfold FavoriteSheet_1; simp)
    go_enter Try.func62, Try.ntmps62
    go_wp2_with fail
    refine (l11Good_any _ _ _ [] _ S.out).mono ?_
    rintro e w1 ⟨rfl, hb⟩
    rw [Q.out]
    have B1 := Lib.hid hb
    clear hb
    cases q
    · go_wp2
      go_ret2
      exact ⟨by unfold FavoriteSheet_0; rw [E.out]; rfl, B1.out⟩
    · go_wp2
      go_ret2
      exact ⟨by unfold FavoriteSheet_0; rw [E.out]; rfl, B1.out⟩
  have hp : 0 < xs.length := by cases xs with | nil => exact absurd rfl h0 | cons => simp
  have HP := Lib.hid hp
  have hp2 : ¬ xs.length = 0 := by omega
  have hp3 : ((xs.length : Int) == 0) = false := by simp; exact h0
  go_enter Try.func62, Try.ntmps62
  go_wp2_with fail
  refine (l11Good_any _ _ _ xs _ S.out).mono ?_
  rintro e w1 ⟨rfl, hb⟩
  rw [Q.out]
  have B1 := Lib.hid hb
  clear hb
  cases q
  · have E := Lib.hid (show FavoriteSheet_1 xs = false from by unfold FavoriteSheet_1; rw [Q.out]; rfl)
    go_wp2
    go_ret2
    exact ⟨by unfold FavoriteSheet_0; rw [E.out]; rfl, B1.out⟩
  have E := Lib.hid (show FavoriteSheet_1 xs = true from by unfold FavoriteSheet_1; rw [Q.out, decide_eq_true hp]; rfl)
  have L15 := areLo_len Q.out
  go_wp2
  clear hp2 hp3 hp h0
  go_loopw [6, 4, 5] (fun i b m wr => ∃ (k : Nat) (bv mv : Int), k ≤ xs.length ∧ i = .int .i64 k ∧ b = .int .i64 bv ∧ m = .int .i64 mv ∧ FavTo xs k bv mv ∧ Below w.heap.size w wr) (fun i _ _ _ => xs.length - (intOf i).toNat)
  case atStart => exact ⟨0, 0, 0, Nat.zero_le _, rfl, rfl, rfl, .inl ⟨rfl, rfl, rfl⟩, B1.out⟩
  case round =>
    obtain ⟨k, bv, mv, hk, rfl, rfl, rfl, hr, hbel⟩ := hrel
    have B := Lib.hid hbel
    have R := Lib.hid hr
    clear hr
    by_cases hlt : k < xs.length
    · obtain ⟨s, hs⟩ : ∃ s, xs[k]? = some s := ⟨xs[k]'hlt, List.getElem?_eq_getElem _⟩
      have HS := Lib.hid hs
      have hi0 : (0 : Int) ≤ (k : Int) := by omega
      have hi1 : (k : Int) < (xs.length : Int) := by omega
      rename World => wo
      clear hbel hs
      go_wp2
      go_loopw [8, 7] (fun i v wr => ∃ j : Nat, j ≤ xs.length ∧ i = .int .i64 j ∧ v = .int .i64 (timesL (xs.take j) s.Sheet) ∧ Below w.heap.size w wr) (fun i _ _ => xs.length - (intOf i).toNat)
      case atStart => exact ⟨0, Nat.zero_le _, rfl, rfl, B.out⟩
      case round =>
        obtain ⟨j, hj, rfl, rfl, hbel⟩ := hrel
        have BJ := Lib.hid hbel
        by_cases hjl : j < xs.length
        · obtain ⟨c, hc⟩ : ∃ c, xs[j]? = some c := ⟨xs[j]'hjl, List.getElem?_eq_getElem _⟩
          obtain ⟨b, o, rfl, _, hat⟩ := (S.out.below hbel).at (by omega)
          obtain ⟨c0, _⟩ := hat k s HS.out
          obtain ⟨d0, _⟩ := hat j c hc
          have hj0 : (0 : Int) ≤ (j : Int) := by omega
          have hj1 : (j : Int) < (xs.length : Int) := by omega
          have NX := Lib.hid (times_more (sh := s.Sheet) hc)
          have bd := times_bd (xs.take j) s.Sheet
          have lt : (xs.take j).length ≤ 15 := by rw [List.length_take]; omega
          obtain ⟨z, hz⟩ : ∃ z, timesL (xs.take j) s.Sheet = z := ⟨_, rfl⟩
          rw [hz] at NX bd ⊢
          have v1 : IntKind.i64.wrap (z + 1) = z + 1 := IntWalk.i64_in _ (by omega)
          clear hbel hat hc hz
          by_cases hsh : c.Sheet = s.Sheet
          · have s1 : (c.Sheet == s.Sheet) = true := by simp [hsh]
            have S1 := Lib.hid hsh
            clear hsh
            go_wp2
            go_quiet (fail)
            have B3 := Lib.hid (Below.then' BJ.out (bel_drawn _ nq))
            go_wp2
            go_roundw
            case rel => exact ⟨j + 1, by omega, by go_num, by rw [NX.out, if_pos S1.out], B3.out⟩
            case measure => simp [intOf]; omega
          · have s1 : (c.Sheet == s.Sheet) = false := by simp [hsh]
            have S1 := Lib.hid hsh
            clear hsh
            go_wp2
            go_quiet (fail)
            have B3 := Lib.hid (Below.then' BJ.out (bel_drawn _ nq))
            go_wp2
            go_roundw
            case rel => exact ⟨j + 1, by omega, by go_num, by rw [NX.out, if_neg S1.out, Int.add_zero], B3.out⟩
            case measure => simp [intOf]; omega
        · obtain rfl : j = xs.length := by omega
          have T := Lib.hid (show xs.take xs.length = xs from List.take_of_length_le (Nat.le_refl _))
          rw [T.out]
          obtain ⟨b, o, rfl, _, hat⟩ := (S.out.below hbel).at (by omega)
          obtain ⟨c0, _⟩ := hat k s HS.out
          have YES := Lib.hid (fun hy => fav_yes (bv := bv) (mv := mv) HS.out R.out hy)
          have NO := Lib.hid (fun h1 h2 => fav_no (bv := bv) (mv := mv) HS.out R.out h1 h2)
          obtain ⟨n, hn⟩ : ∃ n, timesL xs s.Sheet = n := ⟨_, rfl⟩
          rw [hn] at YES NO ⊢
          clear hbel hat hn
          by_cases h1 : mv < n
          · have Y := Lib.hid (YES.out (.inl h1))
            go_wp2
            go_roundw
            case rel => exact ⟨k + 1, _, _, by omega, by go_num, rfl, rfl, Y.out, BJ.out⟩
            case measure => simp [intOf]; omega
          · have h1' : decide (mv < n) = false := decide_eq_false h1
            by_cases h2 : n = mv
            · have h2' : (n == mv) = true := by simp [h2]
              by_cases h3 : s.Sheet < bv
              · have Y := Lib.hid (YES.out (.inr ⟨h2.symm, h3⟩))
                clear h2
                go_wp2
                go_roundw
                case rel => exact ⟨k + 1, _, _, by omega, by go_num, rfl, rfl, Y.out, BJ.out⟩
                case measure => simp [intOf]; omega
              · have h3' : decide (s.Sheet < bv) = false := decide_eq_false h3
                have Y := Lib.hid (NO.out h1 (fun h => h3 h.2))
                clear h2
                go_wp2
                go_roundw
                case rel => exact ⟨k + 1, _, _, by omega, by go_num, rfl, rfl, Y.out, BJ.out⟩
                case measure => simp [intOf]; omega
            · have h2' : (n == mv) = false := by simp [h2]
              have Y := Lib.hid (NO.out h1 (fun h => h2 h.1.symm))
              clear h2
              go_wp2
              go_roundw
              case rel => exact ⟨k + 1, _, _, by omega, by go_num, rfl, rfl, Y.out, BJ.out⟩
              case measure => simp [intOf]; omega
    · obtain rfl : k = xs.length := by omega
      have RR := Lib.hid (show bv = FavoriteSheet_0 xs from by
        rcases R.out with ⟨h, _, _⟩ | ⟨_, h1, _⟩
        · have := HP.out; omega
        · rw [List.take_of_length_le (Nat.le_refl _)] at h1
          unfold FavoriteSheet_0
          rw [E.out]; exact h1)
      clear hbel
      go_wp2
      go_ret2
      exact ⟨by rw [← RR.out, E.out]; rfl, B.out⟩
end Go.Proofs.Ytffbljbgmgifnaa
