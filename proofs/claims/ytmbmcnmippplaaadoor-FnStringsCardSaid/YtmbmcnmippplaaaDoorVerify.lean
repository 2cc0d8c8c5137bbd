/- VerifyChecksum, the model's and the program's: what stands before the first mark, if the whole text is that with its checksum; else the empty text and false. -/
import Derived.Test.YtmbmcnmippplaaaDoorSeal
import Derived.Test.YtmbmcnmippplaaaDoorSplit
import Derived.Lib.Bytealg
import Derived.Lib.IndexLaws
namespace Go.Proofs.YtmbmcnmippplaaaDoor
open Go.RowKit

/-- What stands before the first mark: the whole text where there is none. -/
def preOf (s : ByteArray) : ByteArray := strOf (s.data.toList.takeWhile fun x => !((x.toNat : Int) == 35))
theorem preOf_list (s : ByteArray) : (preOf s).data.toList = s.data.toList.takeWhile fun x => !((x.toNat : Int) == 35) := strOf_list _
theorem takeWhile_len {α : Type} (p : α → Bool) (l : List α) : (l.takeWhile p).length ≤ l.length := by
  induction l with
  | nil => simp
  | cons x r ih => simp only [List.takeWhile_cons]; split <;> simp <;> omega
theorem tw_self {α : Type} (p : α → Bool) (l : List α) (h : ∀ x ∈ l, p x = true) : l.takeWhile p = l := by
  induction l with
  | nil => rfl
  | cons x r ih => rw [List.takeWhile_cons, if_pos (h x (by simp)), ih (fun y hy => h y (by simp [hy]))]
theorem preOf_size (s : ByteArray) : (preOf s).size ≤ s.size := by
  rw [size_list, size_list, preOf_list]; exact takeWhile_len _ _
theorem preOf_clear (s : ByteArray) : stands (preOf s).data.toList 35 = false := by
  rw [preOf_list]
  unfold stands
  generalize s.data.toList = l
  induction l with
  | nil => rfl
  | cons x r ih =>
    simp only [List.takeWhile_cons]
    split
    · rename_i h; simp only [List.any_cons, ih, Bool.or_false]; simpa using h
    · rfl
/-- The first part of a split is what stands before the first mark. -/
theorem splitR_head (s : ByteArray) : ∀ (d k : Nat), s.size - k = d → k ≤ s.size → (∀ x ∈ s.data.toList.take k, !((x.toNat : Int) == 35)) → (splitR s 35 0 k)[0]? = some (preOf s) := by
  intro d
  induction d with
  | zero =>
    intro k hd hk h
    obtain rfl : k = s.size := by omega
    rw [splitR_end]
    refine congrArg some (bytes_ext ?_)
    rw [Lib.extract_to_end, preOf_list, List.drop_zero]
    rw [take_all] at h
    exact (tw_self _ _ h).symm
  | succ d ih =>
    intro k hd hk h
    by_cases hc : (s[k].toNat : Int) = 35
    · rw [splitR_hit (by omega) hc]
      refine congrArg some (bytes_ext ?_)
      rw [Lib.extract_data, preOf_list, List.drop_zero, Nat.sub_zero]
      have e : s.data.toList = s.data.toList.take k ++ (s[k] :: s.data.toList.drop (k + 1)) := by
        rw [← drop_cons s k (by omega), List.take_append_drop]
      conv => rhs; rw [e]
      rw [List.takeWhile_append_of_pos h]
      simp [hc]
    · rw [splitR_miss (by omega) hc]
      refine ih (k + 1) (by omega) (by omega) ?_
      intro x hx
      rw [take_snoc s k (by omega), List.mem_append] at hx
      rcases hx with hx | hx
      · exact h x hx
      · obtain rfl := List.mem_singleton.1 hx; simpa using hc
theorem split_pre (s : ByteArray) : (splitR s 35 0 0)[0]? = some (preOf s) := splitR_head s s.size 0 (by omega) (by omega) (by simp)

/-- Is s a text with its checksum? -/
def okVer (s : ByteArray) : Bool := decide (s.size ≤ 4000) && (sealOf (preOf s)).toList == s.toList
theorem okVer_iff (s : ByteArray) : okVer s = true ↔ s.size ≤ 4000 ∧ sealOf (preOf s) = s := by
  simp only [okVer, Bool.and_eq_true, decide_eq_true_eq, Lib.bytes_beq_iff]
theorem okVer_seal {s : ByteArray} (h : okVer s = true) : okSeal (preOf s) = true := by
  obtain ⟨h0, h1⟩ := (okVer_iff s).1 h
  exact (okSeal_iff _).2 ⟨by have := preOf_size s; omega, preOf_clear s, by rw [h1]; exact h0⟩
theorem okVer_of {s : ByteArray} (h : okSeal (preOf s) = true) (e : sealOf (preOf s) = s) : okVer s = true :=
  (okVer_iff s).2 ⟨by have := ((okSeal_iff _).1 h).2.2; rw [e] at this; exact this, e⟩

/-- Where the first mark stands. -/
theorem index_pre (s : ByteArray) : (Lib.indexByte s.data.toList 35 < 0 → preOf s = s) ∧ (0 ≤ Lib.indexByte s.data.toList 35 → (Lib.indexByte s.data.toList 35) ≤ s.size - 1 ∧ 1 ≤ s.size ∧ s.extract 0 (Lib.indexByte s.data.toList 35).toNat = preOf s) := by
  constructor
  · intro h
    have h1 : Lib.indexByte s.data.toList 35 = -1 := by have := Lib.indexByte_ge s.data.toList 35; omega
    have hn := Lib.indexByte_none h1
    refine bytes_ext ?_
    rw [preOf_list]
    refine tw_self _ _ ?_
    intro x hx
    obtain ⟨k, hk⟩ := List.mem_iff_getElem?.1 hx
    have := hn k
    rw [hk] at this
    have hx : x ≠ 35 := fun e => this (by rw [e])
    simp only [Bool.not_eq_true', beq_eq_false_iff_ne, ne_eq]
    intro he
    exact hx (UInt8.toNat_inj.1 (by have : (35 : UInt8).toNat = 35 := rfl; omega))
  · intro h
    obtain ⟨o, ho⟩ := Int.eq_ofNat_of_zero_le h
    obtain ⟨h1, h2⟩ := Lib.indexByte_some ho
    have hlt : o < s.data.toList.length := (List.getElem?_eq_some_iff.1 h1).1
    rw [← size_list] at hlt
    refine ⟨by omega, by omega, bytes_ext ?_⟩
    rw [ho, show ((o : Nat) : Int).toNat = o from by omega, Lib.extract_data, List.drop_zero, Nat.sub_zero, preOf_list]
    have hd : s.data.toList.drop o = 35 :: s.data.toList.drop (o + 1) := by
      rw [drop_cons s o hlt]
      have : s[o] = 35 := (List.getElem?_eq_some_iff.1 h1).2
      rw [this]
    conv => rhs; rw [← List.take_append_drop o s.data.toList, hd]
    rw [List.takeWhile_append_of_pos]
    · simp
    · intro x hx
      obtain ⟨k, hk⟩ := List.mem_iff_getElem?.1 hx
      have hko : k < o := by
        have := (List.getElem?_eq_some_iff.1 hk).1
        simp at this; omega
      rw [List.getElem?_take_of_lt hko] at hk
      have := h2 k hko
      rw [hk] at this
      have hx : x ≠ 35 := fun e => this (by rw [e])
      simp only [Bool.not_eq_true', beq_eq_false_iff_ne, ne_eq]
      intro he
      exact hx (UInt8.toNat_inj.1 (by have : (35 : UInt8).toNat = 35 := rfl; omega))

/-- strings.Cut at the mark: the first result alone is told. -/
def CutPost (s : ByteArray) (w : World) (e : Ending) (w' : World) : Prop := ∃ x b, e = .returned (.tuple #[.string (preOf s), .string x, .bool b]) ∧ ∃ m, w' = w.drewN m
theorem lite_cut (s : ByteArray) (w : World) (hs : s.size ≤ 1048576) :
    Calls Tryd.prog 42 #[.string s, .string ⟨#[35]⟩] w (CutPost s w) := by
  obtain ⟨hneg, hpos⟩ := index_pre s
  obtain ⟨i, hi⟩ : ∃ i, Lib.indexByte s.data.toList 35 = i := ⟨_, rfl⟩
  rw [hi] at hneg hpos
  have I := Lib.hid hi
  clear hi
  by_cases h : i < 0
  · have P := Lib.hid (hneg h)
    clear hneg hpos
    go_enter Tryd.func42, Tryd.ntmps42
    go_wp2_with (go_at_call 45; refine (Tryd.stringslite_Index_one _ _ _).mono ?_; rw [I.out]; rintro e w' ⟨rfl, rfl⟩)
    go_ret3
    refine ⟨⟨#[]⟩, false, ?_, 0, rfl⟩
    rw [P.out]
    rfl
  · obtain ⟨h1, h2, h3⟩ := hpos (by omega)
    have P := Lib.hid h3
    clear hneg hpos h3
    have h0 : 0 ≤ i := by omega
    go_enter Tryd.func42, Tryd.ntmps42
    go_wp2_with (go_at_call 45; refine (Tryd.stringslite_Index_one _ _ _).mono ?_; rw [I.out]; rintro e w' ⟨rfl, rfl⟩)
    have e1 : IntKind.i64.wrap (i + 1) = i + 1 := IntWalk.i64_in _ (by omega)
    have e2 : 0 ≤ i + 1 := by omega
    have e3 : i + 1 ≤ (s.size : Int) := by omega
    have e4 : i ≤ (s.size : Int) := by omega
    go_quiet (fail)
    go_wp2
    go_ret3
    refine ⟨s.extract (i + 1).toNat s.size, true, ?_, _, rfl⟩
    rw [← P.out]
    rfl
theorem str_cut (s : ByteArray) (w : World) (hs : s.size ≤ 1048576) :
    Calls Tryd.prog 35 #[.string s, .string ⟨#[35]⟩] w (CutPost s w) := by
  go_enter Tryd.func35, Tryd.ntmps35
  go_wp2_with (go_at_call 42; refine (lite_cut _ _ hs).mono ?_; rintro e w' ⟨x, b, rfl, m, rfl⟩)
  go_ret3
  exact ⟨x, b, rfl, m, rfl⟩
theorem str_clone (s : ByteArray) (w : World) (hs : s.size ≤ 1048576) :
    Calls Tryd.prog 36 #[.string s] w fun e w' => e = .returned (.string s) ∧ Below w.heap.size w w' := by
  go_enter Tryd.func36, Tryd.ntmps36
  go_wp2_with (go_at_call 43; refine (Tryd.stringslite_Clone _ _ (by omega)).mono ?_; rintro e w' ⟨rfl, hb⟩)
  go_ret
  exact ⟨rfl, hb⟩

/-- The first cell of a row of texts. -/
theorem row_head {w : World} {base : Nat} {T : TypeId} {v : Value} {xs : List ByteArray} {x : ByteArray} (h : w.ownsRow base T 1 v xs.length (xs.map Value.string)) (hx : xs[0]? = some x) :
    ∃ g n cap, v = .slice (some ⟨g, 0, none⟩) (n + 1) cap ∧ w.cell? ⟨g, 0, none⟩ = some (.string x) := by
  have hn : 0 < xs.length := (List.getElem?_eq_some_iff.1 hx).1
  rcases h.2 with ⟨_, h0⟩ | ⟨g, cap, cur, rfl, _⟩
  · omega
  · have hc := h.cells (g := g) rfl 0 (.string x) (by simp [hx])
    exact ⟨g, xs.length - 1, cap, by rw [show xs.length - 1 + 1 = xs.length from by omega], by simpa [Addr.add] using hc⟩

theorem specVerify_yes (s : ByteArray) (w : World) (h : okVer s = true) :
    Calls Tryd.prog 20 #[.string s] w fun e w' => e = .returned (.tuple #[.string (preOf s), .bool true]) ∧ Below w.heap.size w w' := by
  obtain ⟨h0, h1⟩ := (okVer_iff s).1 h
  have hz := preOf_size s
  have H1 := Lib.hid (eq_testT h1)
  clear h h1
  go_enter Tryd.func20, Tryd.ntmps20
  go_wp2_with (first
    | (go_at_call 37; refine (l1Split_any _ _ _ (by omega)).mono ?_; rintro e w' ⟨v, rfl, hown, hb⟩; obtain ⟨g, n, cap, rfl, hc⟩ := row_head hown (split_pre s); clear hown)
    | (go_at_call 34; refine (l1Seal_any _ _ (by omega)).mono ?_; rintro e w'' ⟨rfl, m, rfl⟩; have q := H1.out))
  go_ret2
  exact ⟨rfl, Below.then' hb (bel_drawn _ _)⟩
theorem specVerify_no (s : ByteArray) (w : World) (hs : s.size ≤ 9223372036854775807) (h : okVer s = false) :
    Calls Tryd.prog 20 #[.string s] w fun e w' => e = .returned (.tuple #[.string ⟨#[]⟩, .bool false]) ∧ Below w.heap.size w w' := by
  by_cases h0 : 4000 < s.size
  · clear h
    go_enter Tryd.func20, Tryd.ntmps20
    go_wp2
    go_ret2
    exact ⟨rfl, Below.refl _ _⟩
  have h1 : sealOf (preOf s) ≠ s := fun e => by rw [(okVer_iff s).2 ⟨by omega, e⟩] at h; cases h
  have hz := preOf_size s
  have H1 := Lib.hid (ne_testT h1)
  clear h h1
  go_enter Tryd.func20, Tryd.ntmps20
  go_wp2_with (first
    | (go_at_call 37; refine (l1Split_any _ _ _ (by omega)).mono ?_; rintro e w' ⟨v, rfl, hown, hb⟩; obtain ⟨g, n, cap, rfl, hc⟩ := row_head hown (split_pre s); clear hown)
    | (go_at_call 34; refine (l1Seal_any _ _ (by omega)).mono ?_; rintro e w'' ⟨rfl, m, rfl⟩; have q := H1.out))
  go_ret2
  exact ⟨rfl, Below.then' hb (bel_drawn _ _)⟩

theorem implVerify_yes (s : ByteArray) (w : World) (h : okVer s = true) (hp : ∀ w', Below w.heap.size w w' → TabPow w') :
    Calls Tryd.prog 18 #[.string s] w fun e w' => e = .returned (.tuple #[.string (preOf s), .bool true]) ∧ Below w.heap.size w w' := by
  obtain ⟨h0, h1⟩ := (okVer_iff s).1 h
  have hz := preOf_size s
  have O := Lib.hid (okVer_seal h)
  have H1 := Lib.hid (eq_testT h1)
  have T := Lib.hid hp
  clear h h1 hp
  go_enter Tryd.func18, Tryd.ntmps18
  go_wp2_with (first
    | (go_at_call 35; refine (str_cut _ _ (by omega)).mono ?_; rintro e w' ⟨x, b, rfl, m, rfl⟩)
    | (go_at_call 16; refine (implAppend_yes _ _ O.out (T.out _ (bel_drawn _ _))).mono ?_; rintro e w' ⟨rfl, hb⟩; have q := H1.out)
    | (go_at_call 36; refine (str_clone _ _ (by omega)).mono ?_; rintro e w'' ⟨rfl, hb2⟩))
  go_ret2
  exact ⟨rfl, Below.then' ((bel_drawn _ _).trans hb) hb2⟩
theorem implVerify_no (s : ByteArray) (w : World) (hs : s.size ≤ 1048576) (h : okVer s = false) (hp : ∀ w', Below w.heap.size w w' → TabPow w') :
    Calls Tryd.prog 18 #[.string s] w fun e w' => e = .returned (.tuple #[.string ⟨#[]⟩, .bool false]) ∧ Below w.heap.size w w' := by
  have hz := preOf_size s
  have T := Lib.hid hp
  clear hp
  by_cases ho : okSeal (preOf s) = true
  · have h1 : sealOf (preOf s) ≠ s := fun e => by rw [okVer_of ho e] at h; cases h
    have O := Lib.hid ho
    have H1 := Lib.hid (ne_testT h1)
    clear h h1 ho
    go_enter Tryd.func18, Tryd.ntmps18
    go_wp2_with (first
      | (go_at_call 35; refine (str_cut _ _ hs).mono ?_; rintro e w' ⟨x, b, rfl, m, rfl⟩)
      | (go_at_call 16; refine (implAppend_yes _ _ O.out (T.out _ (bel_drawn _ _))).mono ?_; rintro e w' ⟨rfl, hb⟩; have q := H1.out))
    go_ret2
    exact ⟨rfl, (bel_drawn _ _).trans hb⟩
  · have O := Lib.hid (show okSeal (preOf s) = false by simpa using ho)
    clear h ho
    go_enter Tryd.func18, Tryd.ntmps18
    go_wp2_with (first
      | (go_at_call 35; refine (str_cut _ _ hs).mono ?_; rintro e w' ⟨x, b, rfl, m, rfl⟩)
      | (go_at_call 16; refine (implAppend_no _ _ (by omega) O.out (T.out _ (bel_drawn _ _))).mono ?_; rintro e w' ⟨rfl, hb⟩))
    go_ret2
    exact ⟨rfl, (bel_drawn _ _).trans hb⟩
end Go.Proofs.YtmbmcnmippplaaaDoor
