/- JoinStrings, the model's and the program's: the texts with the separator between them, where each part is clear of it and all is short enough; else the empty text and false. -/
import Derived.Test.YtmbmcnmippplaaaStands
import Derived.Test.YtmbmcnmippplaaaStrs
import Derived.Test.YtmbmcnmippplaaaShelf
import Derived.Lib.Join
namespace Go.Proofs.Ytmbmcnmippplaaa
open Go.RowKit

def joinB (xs : List ByteArray) (sep : ByteArray) : ByteArray := strOf (Lib.join (xs.map (·.data.toList)) sep.data.toList)
theorem join_snoc (l : List (List UInt8)) (x sep : List UInt8) (h : l ≠ []) : Lib.join (l ++ [x]) sep = Lib.join l sep ++ sep ++ x := by
  obtain ⟨y, r, rfl⟩ := List.exists_cons_of_ne_nil h
  rw [List.cons_append, Lib.join_cons, Lib.join_cons]
  simp [Lib.joinTail]
theorem joinB_nil (sep : ByteArray) : joinB [] sep = ⟨#[]⟩ := rfl
theorem joinB_one (x sep : ByteArray) : joinB [x] sep = x := by
  apply bytes_ext; unfold joinB; rw [strOf_list]; exact Lib.join_one _ _
theorem joinB_snoc (xs : List ByteArray) (x sep : ByteArray) (h : xs ≠ []) : joinB (xs ++ [x]) sep = joinB xs sep ++ sep ++ x := by
  apply bytes_ext
  rw [bytes_append, bytes_append]
  unfold joinB
  rw [strOf_list, strOf_list, List.map_append, List.map_cons, List.map_nil, join_snoc _ _ _ (by simpa using h)]
theorem lens_total (xs : List ByteArray) : Lib.lens (xs.map (·.data.toList)) = total xs := by
  induction xs with
  | nil => rfl
  | cons x r ih => simp only [List.map_cons, Lib.lens, total, List.sum_cons] at *; rw [size_list]; omega
theorem joinB_size (xs : List ByteArray) (sep : ByteArray) (h : xs ≠ []) (hs : sep.size = 1) : (joinB xs sep).size + 1 = total xs + xs.length := by
  obtain ⟨y, r, rfl⟩ := List.exists_cons_of_ne_nil h
  unfold joinB
  rw [strOf_size, List.map_cons, Lib.join_length, ← List.map_cons (f := fun x : ByteArray => x.data.toList), lens_total, ← size_list, hs]
  simp; omega

theorem joinB_len (xs : List ByteArray) (sep : ByteArray) : (joinB xs sep).size = (Lib.join (xs.map (·.data.toList)) sep.data.toList).length := by unfold joinB; rw [strOf_size]
/-- The separator's byte. -/
def cvOf (sep : ByteArray) : Int := ((sep.data.toList.headD 0).toNat : Int)
theorem cvOf_at (sep : ByteArray) (h : 0 < sep.size) : (sep[0].toNat : Int) = cvOf sep := by
  have h' := drop_cons sep 0 h
  rw [List.drop_zero] at h'
  unfold cvOf; rw [h']; rfl
def OkJoin (xs : List ByteArray) (sep : ByteArray) : Prop := sep.size = 1 ∧ xs ≠ [] ∧ (∀ x ∈ xs, stands x.data.toList (cvOf sep) = false) ∧ total xs + xs.length ≤ 4001
/-- What JoinStrings is to answer. -/
def IsJoin (xs : List ByteArray) (sep r : ByteArray) (b : Bool) : Prop := (OkJoin xs sep ∧ b = true ∧ r = joinB xs sep) ∨ (¬ OkJoin xs sep ∧ b = false ∧ r = ⟨#[]⟩)
theorem IsJoin.one {xs : List ByteArray} {sep r r' : ByteArray} {b b' : Bool} (h : IsJoin xs sep r b) (h' : IsJoin xs sep r' b') : r = r' ∧ b = b' := by
  rcases h with ⟨a, rfl, rfl⟩ | ⟨a, rfl, rfl⟩ <;> rcases h' with ⟨c, rfl, rfl⟩ | ⟨c, rfl, rfl⟩
  · exact ⟨rfl, rfl⟩
  · exact absurd a c
  · exact absurd c a
  · exact ⟨rfl, rfl⟩
theorem IsJoin.no {xs : List ByteArray} {sep : ByteArray} (h : ¬ OkJoin xs sep) : IsJoin xs sep ⟨#[]⟩ false := .inr ⟨h, rfl, rfl⟩
theorem IsJoin.yes {xs : List ByteArray} {sep : ByteArray} (h : OkJoin xs sep) : IsJoin xs sep (joinB xs sep) true := .inl ⟨h, rfl, rfl⟩
def JoinPost (xs : List ByteArray) (sep : ByteArray) (w : World) (e : Ending) (w' : World) : Prop := ∃ r b, e = .returned (.tuple #[.string r, .bool b]) ∧ IsJoin xs sep r b ∧ Below w.heap.size w w'

set_option maxHeartbeats 1600000 in
set_option maxRecDepth 100000 in
theorem specJoin (a : Option Addr) (len cap : Nat) (xs : List ByteArray) (sep : ByteArray) (w : World) (h : IsStrs w a len cap xs) (hsz : total xs + xs.length ≤ 1048576) :
    Calls Try.prog 13 #[.slice a len cap, .string sep] w (JoinPost xs sep w) := by
  obtain rfl := h.len
  obtain ⟨hx, hm, hs⟩ := h
  clear hx hm
  by_cases h1 : sep.size = 1
  case neg =>
    have N := Lib.hid (show ¬ OkJoin xs sep from fun h => h1 h.1)
    have h1' : ((sep.size : Int) == 1) = false := by simp; omega
    clear hs h1
    go_enter Try.func13, Try.ntmps13
    go_wp2
    go_ret2
    exact ⟨_, _, rfl, IsJoin.no N.out, Below.refl _ _⟩
  rcases hs with ⟨_, rfl⟩ | ⟨b, o, rfl, hpos, _, hcl, hcm, hb, hc⟩
  · have N := Lib.hid (show ¬ OkJoin [] sep from fun h => h.2.1 rfl)
    go_enter Try.func13, Try.ntmps13
    go_wp2
    go_ret2
    exact ⟨_, _, rfl, IsJoin.no N.out, Below.refl _ _⟩
  have C := Lib.hid hc
  have S1 := Lib.hid h1
  have CV := Lib.hid (cvOf_at sep (by omega))
  have hne : xs ≠ [] := by rintro rfl; simp at hpos
  have NE := Lib.hid hne
  have hp0 : ((xs.length : Int) == 0) = false := by simp; omega
  unfold maxLen at hcm
  clear hc hne
  go_enter Try.func13, Try.ntmps13
  go_wp2
  go_loopw [6, 7] (fun t i wr => ∃ (k m : Nat) (u : ByteArray), k ≤ xs.length ∧ i = .int .i64 k ∧ t = .string u ∧ u.size ≤ 4000 ∧ u = joinB (xs.take k) sep ∧ (∀ x ∈ xs.take k, stands x.data.toList (cvOf sep) = false) ∧ wr = w.drewN m) (fun _ i _ => xs.length - (intOf i).toNat)
  case atStart => exact ⟨0, 0, ⟨#[]⟩, Nat.zero_le _, rfl, rfl, by decide, rfl, by simp, rfl⟩
  case round =>
    obtain ⟨k, m, u, hk, rfl, rfl, hu, hj, hcl2, hw⟩ := hrel
    have U := Lib.hid hj
    have CL := Lib.hid hcl2
    have W := Lib.hid hw
    clear hj hcl2
    by_cases hlt : k < xs.length
    · obtain ⟨x, hxk⟩ : ∃ x, xs[k]? = some x := ⟨xs[k]'hlt, List.getElem?_eq_getElem _⟩
      have hcell : wr.cell? ⟨b, o + k, none⟩ = some (.string x) := by rw [hw]; exact C.out k x hxk
      have TK := Lib.hid (list_snoc xs k x hxk)
      have hmem := Lib.hid (List.mem_of_getElem? hxk)
      have htot : total (xs.take k) + x.size ≤ total xs := by have := total_take_le xs (k + 1); rw [TK.out, total_snoc] at this; exact this
      have hi0 : (0 : Int) ≤ (k : Int) := by omega
      clear hw hxk
      by_cases hst : stands x.data.toList (cvOf sep) = true
      · have ST := Lib.hid hst
        have q : ∀ n, Calls Try.prog 33 #[.string x, .int .u8 ((sep[0]'(by omega)).toNat : Int)] (wr.drewN n) fun e w'' => e = .returned (.bool true) ∧ ∃ m, w'' = wr.drewN m := fun n => (l1Stands_any x _ _ (by omega)).mono fun e w' ⟨he, hw⟩ => ⟨by rw [he, CV.out, ST.out], n, hw.symm⟩
        have Q := Lib.hid q
        clear q hst
        go_wp2
        go_quiet ((go_at_call 33; exact Q.out _))
        go_wp2
        go_ret2
        exact ⟨_, _, rfl, IsJoin.no (fun h => by have := h.2.2.1 x hmem.out; rw [ST.out] at this; cases this), by rw [W.out]; exact bel_drawn2 _ _ _⟩
      have hst' : stands x.data.toList (cvOf sep) = false := by simpa using hst
      have ST := Lib.hid hst'
      have q : ∀ n, Calls Try.prog 33 #[.string x, .int .u8 ((sep[0]'(by omega)).toNat : Int)] (wr.drewN n) fun e w'' => e = .returned (.bool false) ∧ ∃ m, w'' = wr.drewN m := fun n => (l1Stands_any x _ _ (by omega)).mono fun e w' ⟨he, hw⟩ => ⟨by rw [he, CV.out, ST.out], n, hw.symm⟩
      have Q := Lib.hid q
      have CL' := Lib.hid (show ∀ y ∈ xs.take (k + 1), stands y.data.toList (cvOf sep) = false from by
        intro y hy
        rw [TK.out, List.mem_append] at hy
        rcases hy with hy | hy
        · exact CL.out y hy
        · obtain rfl := List.mem_singleton.1 hy; exact ST.out)
      clear q hst hst'
      have hz1 : u.size + sep.size ≤ 9223372036854775807 := by omega
      by_cases hk0 : k = 0
      · subst hk0
        have J := Lib.hid (show u ++ x = joinB (xs.take 1) sep from by rw [U.out, show xs.take 1 = [x] from by rw [TK.out]; rfl, List.take_zero, joinB_nil, joinB_one]; exact bytes_ext (by simp))
        have hu0 : u.size = 0 := by rw [U.out, List.take_zero, joinB_nil]; rfl
        have hz2 : u.size + x.size ≤ 9223372036854775807 := by omega
        have ZZ := Lib.hid hu0
        have hcell0 : wr.cell? ⟨b, o, none⟩ = some (.string x) := by simpa using hcell
        clear hu0
        by_cases hbig : 4000 < (u.size : Int) + (x.size : Int)
        · go_wp2
          go_quiet ((go_at_call 33; exact Q.out _))
          go_wp2
          go_ret2
          exact ⟨_, _, rfl, IsJoin.no (fun h => by have := h.2.2.2; have := ZZ.out; simp at htot; omega), by rw [W.out]; exact bel_drawn2 _ _ _⟩
        · have hbig' : (u.size : Int) + (x.size : Int) ≤ 4000 := by omega
          clear hbig
          go_wp2
          go_quiet ((go_at_call 33; exact Q.out _))
          go_wp2
          go_roundw
          case rel => exact ⟨1, _, u ++ x, by omega, by go_num, rfl, by rw [ByteArray.size_append]; omega, J.out, CL'.out, by rw [W.out]; exact World.drewN_drewN _ _ _⟩
          case measure => simp [intOf]; omega
      · have hkp : (0 : Int) < (k : Int) := by omega
        have hl : (xs.take k).length = k := by simp; omega
        have hne' : xs.take k ≠ [] := by intro e; rw [e] at hl; simp at hl; omega
        have hsz' := joinB_size (xs.take k) sep hne' S1.out
        rw [← U.out] at hsz'
        rw [hl] at hsz'
        have Z := Lib.hid hsz'
        have J := Lib.hid (show u ++ sep ++ x = joinB (xs.take (k + 1)) sep from by rw [U.out, TK.out, joinB_snoc _ _ _ hne'])
        have hz2 : (u ++ sep).size + x.size ≤ 9223372036854775807 := by rw [ByteArray.size_append]; omega
        clear hsz' hl hne'
        by_cases hbig : 4000 < (u.size : Int) + 1 + (x.size : Int)
        · go_wp2
          go_quiet ((go_at_call 33; exact Q.out _))
          go_wp2
          go_ret2
          exact ⟨_, _, rfl, IsJoin.no (fun h => by have := h.2.2.2; have := Z.out; omega), by rw [W.out]; exact bel_drawn2 _ _ _⟩
        · have hbig' : (u.size : Int) + 1 + (x.size : Int) ≤ 4000 := by omega
          clear hbig
          go_wp2
          go_quiet ((go_at_call 33; exact Q.out _))
          go_wp2
          go_roundw
          case rel => exact ⟨k + 1, _, u ++ sep ++ x, by omega, by go_num, rfl, by rw [ByteArray.size_append, ByteArray.size_append]; have := S1.out; omega, J.out, CL'.out, by rw [W.out]; exact World.drewN_drewN _ _ _⟩
          case measure => simp [intOf]; omega
    · obtain rfl : k = xs.length := by omega
      clear hw
      go_wp2
      go_ret2
      rw [list_all] at U CL
      refine ⟨u, true, rfl, ?_, by rw [W.out]; exact bel_drawn _ _⟩
      have z := joinB_size xs sep NE.out S1.out
      rw [← U.out] at z
      rw [U.out]
      exact IsJoin.yes ⟨S1.out, NE.out, CL.out, by omega⟩

def canJ (xs : List ByteArray) (cv : Int) : Bool := decide ((∀ x ∈ xs, stands x.data.toList cv = false) ∧ total xs + xs.length ≤ 4001)
theorem canJ_iff {xs : List ByteArray} {cv : Int} : canJ xs cv = true ↔ (∀ x ∈ xs, stands x.data.toList cv = false) ∧ total xs + xs.length ≤ 4001 := decide_eq_true_iff
theorem canJ_no {xs : List ByteArray} {cv : Int} (h : ¬ ((∀ x ∈ xs, stands x.data.toList cv = false) ∧ total xs + xs.length ≤ 4001)) : canJ xs cv = false := decide_eq_false h
set_option maxHeartbeats 1600000 in
theorem canJoin_any (b o cap : Nat) (xs : List ByteArray) (c : UInt8) (w : World) (hpos : 0 < xs.length) (hcl : xs.length ≤ cap) (hcm : cap ≤ 9223372036854775807) (hc : ∀ j x, xs[j]? = some x → w.cell? ⟨b, o + j, none⟩ = some (.string x)) (hsz : total xs + xs.length ≤ 1048576) :
    Calls Try.prog 31 #[.slice (some ⟨b, o, none⟩) xs.length cap, .int .u8 (c.toNat : Int)] w fun e w' => e = .returned (.bool (canJ xs (c.toNat : Int))) ∧ w = w' := by
  have C := Lib.hid hc
  have CC := Lib.hid (show ((c.toNat : Int)).toNat.toUInt8 = c from by simp)
  clear hc
  go_enter Try.func31, Try.ntmps31
  go_wp2
  go_loop [5, 7, 13] (fun z _ i => ∃ (k : Nat) (t : Int), k ≤ xs.length ∧ i = .int .i64 k ∧ z = .int .i64 t ∧ 0 ≤ t ∧ t ≤ 1048576 ∧ t = (xs.length : Int) - 1 + total (xs.take k) ∧ (0 < k → t ≤ 4000) ∧ (∀ x ∈ xs.take k, stands x.data.toList (c.toNat : Int) = false)) (fun _ _ i => xs.length - (intOf i).toNat)
  case atStart => exact ⟨0, (xs.length : Int) - 1, Nat.zero_le _, rfl, rfl, by omega, by omega, by simp [total], by omega, by simp⟩
  case round =>
    obtain ⟨k, t, hk, rfl, rfl, ht0, ht1, ht, hsm, hcl2⟩ := hrel
    have T := Lib.hid ht
    have CL := Lib.hid hcl2
    have SM := Lib.hid hsm
    clear ht hcl2 hsm
    by_cases hlt : k < xs.length
    · obtain ⟨x, hxk⟩ : ∃ x, xs[k]? = some x := ⟨xs[k]'hlt, List.getElem?_eq_getElem _⟩
      have hcell := C.out k x hxk
      have TK := Lib.hid (list_snoc xs k x hxk)
      have hmem := Lib.hid (List.mem_of_getElem? hxk)
      have htot : total (xs.take k) + x.size ≤ total xs := by have := total_take_le xs (k + 1); rw [TK.out, total_snoc] at this; exact this
      have TS := Lib.hid (show total (xs.take (k + 1)) = total (xs.take k) + x.size from by rw [TK.out, total_snoc])
      have htx : t + (x.size : Int) ≤ 1048576 := by have := T.out; omega
      clear hxk
      by_cases hbig : 4000 < t + (x.size : Int)
      · go_wp2
        go_ret
        exact ⟨ret_bool (canJ_no (fun h => by have := h.2; have := T.out; omega)).symm, rfl⟩
      have hbig' : t + (x.size : Int) ≤ 4000 := by omega
      have hbig2 : decide (4000 < t + (x.size : Int)) = false := by simp; omega
      clear hbig
      by_cases hst : stands x.data.toList (c.toNat : Int) = true
      · have ST := Lib.hid hst
        have I := Lib.hid (show decide (0 ≤ Lib.indexByte x.data.toList c) = true from by rw [stands_index]; exact hst)
        clear hst
        go_wp2_with (go_at_call 40; refine (Try.strings_IndexByte _ _ _).mono ?_; rw [CC.out]; rintro e w' ⟨rfl, rfl⟩; have i1 := I.out)
        go_ret
        exact ⟨ret_bool (canJ_no (fun h => by have := h.1 x hmem.out; rw [ST.out] at this; cases this)).symm, rfl⟩
      · have hst' : stands x.data.toList (c.toNat : Int) = false := by simpa using hst
        have ST := Lib.hid hst'
        have I := Lib.hid (show decide (0 ≤ Lib.indexByte x.data.toList c) = false from by rw [stands_index]; exact hst')
        clear hst hst'
        go_wp2_with (go_at_call 40; refine (Try.strings_IndexByte _ _ _).mono ?_; rw [CC.out]; rintro e w' ⟨rfl, rfl⟩; have i1 := I.out)
        go_round
        case rel => exact ⟨k + 1, t + x.size, by omega, by go_num, rfl, by omega, by omega, by have := T.out; have := TS.out; omega, by omega, by
          intro y hy
          rw [TK.out, List.mem_append] at hy
          rcases hy with hy | hy
          · exact CL.out y hy
          · obtain rfl := List.mem_singleton.1 hy; exact ST.out⟩
        case measure => simp [intOf]; omega
    · obtain rfl : k = xs.length := by omega
      go_wp2
      go_ret
      rw [list_all] at T CL
      exact ⟨ret_bool (canJ_iff.2 ⟨CL.out, by have := T.out; have := SM.out hpos; omega⟩).symm, rfl⟩

theorem str_clone (s : ByteArray) (w : World) (hs : s.size ≤ 1048576) :
    Calls Try.prog 28 #[.string s] w fun e w' => e = .returned (.string s) ∧ Below w.heap.size w w' := by
  go_enter Try.func28, Try.ntmps28
  go_wp2_with (go_at_call 38; refine (Try.stringslite_Clone _ _ (by omega)).mono ?_; rintro e w' ⟨rfl, hb⟩)
  go_ret
  exact ⟨rfl, hb⟩

set_option maxHeartbeats 1600000 in
theorem implJoin (a : Option Addr) (len cap : Nat) (xs : List ByteArray) (sep : ByteArray) (w : World) (h : IsStrs w a len cap xs) (hsz : total xs + xs.length ≤ 1048576) :
    Calls Try.prog 12 #[.slice a len cap, .string sep] w (JoinPost xs sep w) := by
  obtain rfl := h.len
  obtain ⟨hx, hm, hs⟩ := h
  clear hx hm
  rcases hs with ⟨_, rfl⟩ | ⟨b, o, rfl, hpos, _, hcl, hcm, hb, hc⟩
  · have N := Lib.hid (show ¬ OkJoin [] sep from fun h => h.2.1 rfl)
    go_enter Try.func12, Try.ntmps12
    go_wp2
    go_ret2
    exact ⟨_, _, rfl, IsJoin.no N.out, Below.refl _ _⟩
  have C := Lib.hid hc
  have hne : xs ≠ [] := by rintro rfl; simp at hpos
  have NE := Lib.hid hne
  have hp0 : ((xs.length : Int) == 0) = false := by simpa using hne
  unfold maxLen at hcm
  clear hc hne
  by_cases h1 : sep.size = 1
  case neg =>
    have N := Lib.hid (show ¬ OkJoin xs sep from fun h => h1 h.1)
    have h1' : ((sep.size : Int) == 1) = false := by simp; omega
    have h1n : ¬ (sep.size : Int) = 1 := by omega
    clear h1
    go_enter Try.func12, Try.ntmps12
    go_wp2
    go_ret2
    exact ⟨_, _, rfl, IsJoin.no N.out, Below.refl _ _⟩
  have S1 := Lib.hid h1
  have CV := Lib.hid (cvOf_at sep (by omega))
  by_cases hok : canJ xs (cvOf sep) = true
  · have OK := Lib.hid (show OkJoin xs sep from ⟨h1, NE.out, canJ_iff.1 hok⟩)
    have K := Lib.hid hok
    have hz := joinB_size xs sep NE.out h1
    have hz' : (joinB xs sep).size ≤ 1048576 := by omega
    have HL := Lib.hid (show (Lib.join (xs.map (·.data.toList)) sep.data.toList).length ≤ 140737488355328 from by rw [← joinB_len]; omega)
    clear hok hz
    go_enter Try.func12, Try.ntmps12
    go_wp2_with (first
      | (go_at_call 31; refine (canJoin_any _ _ _ _ _ _ hpos hcl hcm C.out hsz).mono ?_; rw [CV.out, K.out]; rintro e w' ⟨rfl, rfl⟩)
      | (go_at_call 32; refine (Try.strings_Join b o cap xs sep _ C.out hb (by omega) hcl HL.out).mono ?_; rintro e w' ⟨rfl, hb1⟩)
      | (go_at_call 28; refine (str_clone (joinB xs sep) _ hz').mono ?_; rintro e w'' ⟨rfl, hb2⟩))
    go_ret2
    exact ⟨_, _, rfl, IsJoin.yes OK.out, Below.then' hb1 hb2⟩
  · have NK := Lib.hid (show ¬ OkJoin xs sep from fun h => hok (canJ_iff.2 h.2.2))
    have K := Lib.hid (show canJ xs (cvOf sep) = false by simpa using hok)
    clear hok
    go_enter Try.func12, Try.ntmps12
    go_wp2_with (go_at_call 31; refine (canJoin_any _ _ _ _ _ _ hpos hcl hcm C.out hsz).mono ?_; rw [CV.out, K.out]; rintro e w' ⟨rfl, rfl⟩)
    go_ret2
    exact ⟨_, _, rfl, IsJoin.no NK.out, Below.refl _ _⟩
end Go.Proofs.Ytmbmcnmippplaaa
