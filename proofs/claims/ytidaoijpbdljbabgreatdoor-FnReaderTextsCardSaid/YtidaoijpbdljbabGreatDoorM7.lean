/- Texts in one: Rt2, Read, Dec, Split, Stands, SplitBack, Parse, Pm. -/
import Derived.Test.YtidaoijpbdljbabGreatDoorM6
import Derived.IntWalk
import Derived.Deep.LoopGhost
import Derived.Scope
import Derived.Lib.IndexBytes
import Derived.Test.YtidaoijpbdljbabGreatDoorM1
import Derived.WalkKit
import Derived.ProofKit
import Derived.Lib.Hide
import Derived.Below
import Derived.Handy
import Derived.Laws.AppendOwn
import Derived.OwnWalk
import Derived.Maps.AppendAt
import Derived.Lib.IndexAny
import Derived.Lib.Join
import Derived.Lib.JoinLaws
import Derived.Lib.SlicesS
import Derived.Lib.IndexLaws
import Derived.Lib.IndexMore
namespace Go.Proofs.YtidaoijpbdljbabGreatDoor
open Go.RowKit

def ReaderText_Post (z0 : VReader) (w : World) (e : Ending) (w' : World) : Prop :=
  e = .returned (.tuple #[.string (ReaderText_0 z0), .bool (ReaderText_1 z0)]) ∧ Below w.heap.size w w'
theorem rdText_yes {s : VReader} (h : s.ok = true) : ReaderText_0 s = rdText s ∧ ReaderText_1 s = true := ⟨if_pos h, h⟩
theorem rdText_no {s : VReader} (h : s.ok = false) : ReaderText_0 s = ⟨#[]⟩ ∧ ReaderText_1 s = false := ⟨if_neg (by rw [h]; decide), h⟩
theorem post_text {s : VReader} {w : World} {e : Ending} {w' : World} (h : s.ok = true) (hp : e = .returned (.tuple #[.string (rdText s), .bool true]) ∧ Below w.heap.size w w') : ReaderText_Post s w e w' := by
  obtain ⟨e1, e2⟩ := rdText_yes h
  unfold ReaderText_Post
  rw [e1, e2]; exact hp
theorem post_none {s : VReader} {w : World} {e : Ending} {w' : World} (h : s.ok = false) (hp : e = .returned (.tuple #[.string ⟨#[]⟩, .bool false]) ∧ Below w.heap.size w w') : ReaderText_Post s w e w' := by
  obtain ⟨e1, e2⟩ := rdText_no h
  unfold ReaderText_Post
  rw [e1, e2]; exact hp
set_option maxHeartbeats 3200000 in
set_option maxRecDepth 100000 in
theorem specReaderText_any (s : VReader) (w : World) (hz : s.sized) :
    Calls Tryz.prog 7 #[.agg #[.int .i64 s.Id, .string s.Name, .int .i64 s.Joined, .int .i64 s.Class, .int .i64 s.Fines]] w (ReaderText_Post s w) := by
  cases hok : s.ok with
  | true =>
    refine Calls.mono ?_ (fun _ _ h => post_text hok h)
    have OK := Lib.hid hok
    have HZ := Lib.hid hz
    clear hok hz
    go_enter Tryz.func7, Tryz.ntmps7
    go_wp2_with fail
    refine (l3One_any s _ (sized_smallReader s HZ.out)).mono ?_
    rintro e w1 ⟨rfl, hb⟩
    have B1 := Lib.hid (Below.then' (bel_al1 _ _) hb)
    obtain ⟨e0, e1, e2, e3, e4⟩ := (BoxReader.new w 25 s _ rfl).below hb
    clear hb
    rw [OK.out]
    go_wp2_with fail
    refine (l3Text_any s _ OK.out).mono ?_
    rintro e w2 ⟨rfl, hb⟩
    have B2 := Lib.hid (Below.then' B1.out hb)
    clear hb e0 e1 e2 e3 e4
    go_wp2
    go_ret2
    exact ⟨rfl, B2.out⟩
  | false =>
    refine Calls.mono ?_ (fun _ _ h => post_none hok h)
    have OK := Lib.hid hok
    have HZ := Lib.hid hz
    clear hok hz
    go_enter Tryz.func7, Tryz.ntmps7
    go_wp2_with fail
    refine (l3One_any s _ (sized_smallReader s HZ.out)).mono ?_
    rintro e w1 ⟨rfl, hb⟩
    have B1 := Lib.hid (Below.then' (bel_al1 _ _) hb)
    clear hb
    rw [OK.out]
    go_wp2
    go_ret2
    exact ⟨rfl, B1.out⟩
set_option maxHeartbeats 3200000 in
set_option maxRecDepth 100000 in
theorem implReaderText_yes (s : VReader) (w : World) (hok : s.ok = true) (ht : TabPow w) :
    Calls Tryz.prog 6 #[.agg #[.int .i64 s.Id, .string s.Name, .int .i64 s.Joined, .int .i64 s.Class, .int .i64 s.Fines]] w fun e w' => e = .returned (.tuple #[.string (rdText s), .bool true]) ∧ Below w.heap.size w w' := by
  have zb := rdBase_size hok
  obtain ⟨⟨a0, a1⟩, hw, ⟨b0, b1⟩, ⟨c0, c1⟩, ⟨d0, d1⟩⟩ := rdOk_iff.1 hok
  have zn := (word_size hw).2
  have z0 := text_bd (n := s.Id) (by omega) (by omega)
  have z1 := text_bd (n := s.Class) (by omega) (by omega)
  have z2 := text_bd (n := s.Joined) (by omega) (by omega)
  have z3 := text_bd (n := s.Fines) (by omega) (by omega)
  have k0 : ∀ W, TabPow W → Calls Tryz.prog 25 #[.int .i64 s.Id] W fun e w' => e = .returned (.string (textOf s.Id)) ∧ Below W.heap.size W w' := fun W hT => itoa_any _ (by omega) (by omega) W hT
  have k1 : ∀ W, TabPow W → Calls Tryz.prog 25 #[.int .i64 s.Class] W fun e w' => e = .returned (.string (textOf s.Class)) ∧ Below W.heap.size W w' := fun W hT => itoa_any _ (by omega) (by omega) W hT
  have k2 : ∀ W, TabPow W → Calls Tryz.prog 25 #[.int .i64 s.Joined] W fun e w' => e = .returned (.string (textOf s.Joined)) ∧ Below W.heap.size W w' := fun W hT => itoa_any _ (by omega) (by omega) W hT
  have K3 := Lib.hid (show ∀ W, TabPow W → Calls Tryz.prog 25 #[.int .i64 s.Fines] W fun e w' => e = .returned (.string (textOf s.Fines)) ∧ Below W.heap.size W w' from fun W hT => itoa_any _ (by omega) (by omega) W hT)
  have T : Hid (rdBase s = textOf s.Id ++ ⟨#[32]⟩ ++ s.Name ++ ⟨#[32, 99]⟩ ++ textOf s.Class ++ ⟨#[32, 115, 105, 110, 99, 101, 32]⟩ ++ textOf s.Joined) := Lib.hid rfl
  have TO := Lib.hid (rdText_owes s)
  have TP := Lib.hid (rdText_plain s)
  have TT := Lib.hid ht
  have OK := Lib.hid hok
  have HS := Lib.hid (rdOk_small hok)
  generalize textOf s.Id = t0 at *
  generalize textOf s.Class = t1 at *
  generalize textOf s.Joined = t2 at *
  generalize textOf s.Fines = t3 at *
  generalize rdText s = tt at *
  clear hok hw ht a0 a1 b0 b1 c0 c1
  go_enter Tryz.func6, Tryz.ntmps6
  go_wp2_with fail
  refine (isRd_any s _ HS.out).mono ?_
  rintro e w1 ⟨rfl, hb1⟩
  have BX1 := Lib.hid ((BoxReader.new w 25 s _ rfl).below hb1)
  have B1 := Lib.hid (Below.then' (bel_al1 _ _) hb1)
  clear hb1
  rw [OK.out]
  go_wp2
  refine wp_world (fun W => BoxReader W w.heap.size s ∧ Below w.heap.size w W) ⟨BX1.out, B1.out⟩ ?_
  rintro W ⟨hbox, hbw⟩
  have BX := Lib.hid hbox
  obtain ⟨e0, e1, e2, e3, e4⟩ := hbox
  have BW := Lib.hid hbw
  have T2 := Lib.hid (tabPow_below TT.out hbw)
  have g0 := cell_regrown e0
  have g1 := cell_regrown e1
  have g2 := cell_regrown e2
  have g3 := cell_regrown e3
  have q0 := below_at (W := W) (fun W' hb => k0 W' (tabPow_below T2.out hb))
  have q1 := below_at (W := W) (fun W' hb => k1 W' (tabPow_below T2.out hb))
  have q2 := below_at (W := W) (fun W' hb => k2 W' (tabPow_below T2.out hb))
  clear e0 e1 e2 e3 e4 hbw k0 k1 k2
  refine wp_region_quiet_below (by kernel_rfl) (by kernel_rfl) ?_
  repeat (first | go_big_quiet_step (first | (with_reducible exact q0 _ _) | (with_reducible exact q1 _ _) | (with_reducible exact q2 _ _)) | quiet_step (first | (with_reducible exact q0 _ _) | (with_reducible exact q1 _ _) | (with_reducible exact q2 _ _)))
  refine wpQuiet_nil ?_
  intro W2 hw2
  have hb2 := below_of_re hw2
  have B2 := Lib.hid (Below.then' BW.out hb2)
  have T3 := Lib.hid (tabPow_below T2.out hb2)
  obtain ⟨e0, e1, e2, e3, e4⟩ := BX.out.below hb2
  clear hw2 hb2 q0 q1 q2 g0 g1 g2 g3
  rw [← T.out]
  generalize rdBase s = tb at *
  by_cases hf : 0 < s.Fines
  · have E := Lib.hid (TO.out hf)
    go_wp2_with fail
    refine (K3.out _ T3.out).mono ?_
    rintro e w3 ⟨rfl, hb⟩
    have B3 := Lib.hid (Below.then' B2.out hb)
    clear hb
    go_wp2
    go_ret2
    exact ⟨ret_str_v (by rw [E.out, str_assoc]), B3.out⟩
  · have E := Lib.hid (TP.out (by omega))
    go_wp2
    go_ret2
    exact ⟨ret_str_v E.out.symm, B2.out⟩
set_option maxHeartbeats 1600000 in
theorem implReaderText_any (s : VReader) (w : World) (hz : s.sized) (ht : TabPow w) :
    Calls Tryz.prog 6 #[.agg #[.int .i64 s.Id, .string s.Name, .int .i64 s.Joined, .int .i64 s.Class, .int .i64 s.Fines]] w (ReaderText_Post s w) := by
  cases hok : s.ok with
  | true => exact Calls.mono (implReaderText_yes s w hok ht) (fun _ _ h => post_text hok h)
  | false =>
    refine Calls.mono ?_ (fun _ _ h => post_none hok h)
    have OK := Lib.hid hok
    have HZ := Lib.hid hz
    clear hok hz ht
    go_enter Tryz.func6, Tryz.ntmps6
    go_wp2_with fail
    refine (isRd_any s _ (sized_smallReader s HZ.out)).mono ?_
    rintro e w1 ⟨rfl, hb⟩
    have B1 := Lib.hid (Below.then' (bel_al1 _ _) hb)
    clear hb
    rw [OK.out]
    go_wp2
    go_ret2
    exact ⟨rfl, B1.out⟩
end Go.Proofs.YtidaoijpbdljbabGreatDoor
namespace Go.Proofs.YtidaoijpbdljbabGreatDoor
open Go.RowKit

/-- What leadingInt computes of the bytes that are left, at place k, with n read so far and its sign. -/
def leadG : List UInt8 → Nat → Int → Int → Int
  | [], _, n, sg => sg * n
  | c :: r, k, n, sg => if (c.toNat : Int) = 45 ∧ k = 0 then leadG r (k + 1) n (-1) else if 48 ≤ (c.toNat : Int) ∧ (c.toNat : Int) ≤ 57 ∧ n ≤ 999999 then leadG r (k + 1) (10 * n + ((c.toNat : Int) - 48)) sg else sg * n
set_option maxHeartbeats 800000 in
theorem leading_any (s : ByteArray) (w : World) (hs : s.size ≤ 9223372036854775807) :
    Calls Tryz.prog 77 #[.string s] w fun e w' => e = .returned (.int .i64 (leadG s.data.toList 0 0 1)) ∧ w = w' := by
  go_enter Tryz.func77, Tryz.ntmps77
  go_wp2
  go_step3
  go_wp2
  go_step3
  go_wp2
  go_loop [3, 4, 5, 6, 9] (fun n sg _ _ i => ∃ (k : Nat) (x y : Int), k ≤ s.size ∧ i = .int .i64 k ∧ n = .int .i64 x ∧ sg = .int .i64 y ∧ 0 ≤ x ∧ x ≤ 9999999 ∧ -1 ≤ y ∧ y ≤ 1 ∧ (y = 1 ∨ y = -1) ∧ leadG (s.data.toList.drop k) k x y = leadG s.data.toList 0 0 1) (fun _ _ _ _ i => s.size - (intOf i).toNat)
  case atStart => exact ⟨0, 0, 1, Nat.zero_le _, rfl, rfl, rfl, by omega, by omega, by omega, by omega, .inl rfl, rfl⟩
  case round =>
    obtain ⟨k, x, y, hk, rfl, rfl, rfl, hx0, hx1, hy0, hy1, hy, hg⟩ := hrel
    have Y := Lib.hid hy
    have fin : leadG (s.data.toList.drop k) k x y = y * x → wrap64 (y * x) = leadG s.data.toList 0 0 1 := fun h => by
      rw [← hg, h]; rcases hy with rfl | rfl <;> simp [wrap64] <;> omega
    have F := Lib.hid fin
    have G := Lib.hid hg
    clear hg hy fin
    by_cases hlt : k < s.size
    · have hu : (s[k].toNat : Int) ≤ 255 := by have := s[k].toNat_lt; omega
      have D := Lib.hid (drop_cons s k hlt)
      by_cases hm : (s[k].toNat : Int) = 45
      · have hm' : ((s[k].toNat : Int) == 45) = true := by simpa using hm
        have M := Lib.hid hm
        clear hm
        by_cases hk0 : k = 0
        · subst hk0
          go_wp2
          go_round
          case rel => exact ⟨1, x, -1, by omega, rfl, rfl, rfl, by omega, by omega, by omega, by omega, .inr rfl, by rw [← G.out, D.out, leadG, if_pos ⟨M.out, rfl⟩]⟩
          case measure => simp [intOf]; omega
        · have hk1 : ((k : Int) == 0) = false := by simp; omega
          have K := Lib.hid hk0
          have h48 : decide (48 ≤ (s[k].toNat : Int)) = false := by simp; have := M.out; omega
          clear hk0
          go_wp2
          go_ret
          exact ⟨ret_int (F.out (by rw [D.out, leadG, if_neg (fun h => K.out h.2), if_neg (fun h => by have := M.out; omega)])), rfl⟩
      · have hm' : ((s[k].toNat : Int) == 45) = false := by simpa using hm
        have M := Lib.hid hm
        clear hm
        by_cases hd0 : 48 ≤ (s[k].toNat : Int)
        · by_cases hd1 : (s[k].toNat : Int) ≤ 57
          · by_cases hx : x ≤ 999999
            · go_wp2
              go_round
              case rel => exact ⟨k + 1, 10 * x + ((s[k].toNat : Int) - 48), y, by omega, by go_num, by go_num, rfl, by omega, by omega, hy0, hy1, Y.out, by rw [← G.out, D.out, leadG, if_neg (fun h => M.out h.1), if_pos ⟨hd0, hd1, hx⟩]⟩
              case measure => simp [intOf]; omega
            · have hx' : decide (x ≤ 999999) = false := by simpa using hx
              go_wp2
              go_ret
              exact ⟨ret_int (F.out (by rw [D.out, leadG, if_neg (fun h => M.out h.1), if_neg (fun h => by omega)])), rfl⟩
          · have hd' : decide ((s[k].toNat : Int) ≤ 57) = false := by simpa using hd1
            go_wp2
            go_ret
            exact ⟨ret_int (F.out (by rw [D.out, leadG, if_neg (fun h => M.out h.1), if_neg (fun h => by omega)])), rfl⟩
        · have hd' : decide (48 ≤ (s[k].toNat : Int)) = false := by simpa using hd0
          go_wp2
          go_ret
          exact ⟨ret_int (F.out (by rw [D.out, leadG, if_neg (fun h => M.out h.1), if_neg (fun h => by omega)])), rfl⟩
    · go_wp2
      go_ret
      exact ⟨ret_int (F.out (by rw [show k = s.size from by omega, drop_none, leadG])), rfl⟩
end Go.Proofs.YtidaoijpbdljbabGreatDoor
namespace Go.Proofs.YtidaoijpbdljbabGreatDoor
open Go.RowKit

def IsDig (c : UInt8) : Prop := 48 ≤ (c.toNat : Int) ∧ (c.toNat : Int) ≤ 57
/-- The number of digits that are left, x read so far. -/
def val : Int → List UInt8 → Int
  | x, [] => x
  | x, c :: r => val (10 * x + ((c.toNat : Int) - 48)) r
theorem val_snoc (l : List UInt8) (c : UInt8) : ∀ x, val x (l ++ [c]) = 10 * val x l + ((c.toNat : Int) - 48) := by
  induction l with
  | nil => intro x; rfl
  | cons d r ih => intro x; exact ih _
theorem val_mono (l : List UInt8) : ∀ x, 0 ≤ x → (∀ c ∈ l, IsDig c) → x ≤ val x l := by
  induction l with
  | nil => intro x _ _; exact Int.le_refl _
  | cons d r ih =>
    intro x h0 h
    have hd := h d (by simp)
    have := ih (10 * x + ((d.toNat : Int) - 48)) (by have := hd.1; omega) (fun c hc => h c (by simp [hc]))
    have := hd.1
    simp only [val]; omega
theorem val_bd (l : List UInt8) : ∀ x, 0 ≤ x → (∀ c ∈ l, IsDig c) → 0 ≤ val x l ∧ val x l ≤ (x + 1) * 10 ^ l.length - 1 := by
  induction l with
  | nil => intro x h _; simp [val, h]
  | cons d r ih =>
    intro x h0 h
    have hd := h d (by simp)
    have hd1 := hd.1
    have hd2 := hd.2
    obtain ⟨a, b⟩ := ih (10 * x + ((d.toNat : Int) - 48)) (by omega) (fun c hc => h c (by simp [hc]))
    refine ⟨a, Int.le_trans b ?_⟩
    rw [List.length_cons, Int.pow_succ, show (x + 1) * (10 ^ r.length * 10) = ((x + 1) * 10) * (10 : Int) ^ r.length from by rw [Int.mul_comm ((10 : Int) ^ r.length), Int.mul_assoc]]
    have hp : (0 : Int) ≤ 10 ^ r.length := Int.pow_nonneg (by omega)
    have := Int.mul_le_mul_of_nonneg_right (show (10 * x + ((d.toNat : Int) - 48) + 1) ≤ (x + 1) * 10 by omega) hp
    omega
theorem val_six (l : List UInt8) (hl : l.length ≤ 6) (h : ∀ c ∈ l, IsDig c) : 0 ≤ val 0 l ∧ val 0 l ≤ 999999 := by
  obtain ⟨a, b⟩ := val_bd l 0 (by omega) h
  refine ⟨a, Int.le_trans b ?_⟩
  have : (10 : Int) ^ l.length ≤ 10 ^ 6 := by
    have := Nat.pow_le_pow_right (n := 10) (by omega) hl
    exact_mod_cast this
  simp at this ⊢; omega
theorem dig_ofNat (n : Nat) (h : n < 10) : (UInt8.ofNat (48 + n)).toNat = 48 + n := by
  rw [UInt8.toNat_ofNat']; omega
theorem dec_dig (n : Nat) : ∀ c ∈ Lib.decDigits n, IsDig c := by
  induction n using Nat.strongRecOn with
  | _ n ih =>
    intro c hc
    by_cases h : n < 10
    · rw [Lib.decDigits, dif_pos h] at hc
      obtain rfl := List.mem_singleton.1 hc
      unfold IsDig; rw [dig_ofNat n h]; omega
    · rw [Lib.decDigits, dif_neg h, List.mem_append] at hc
      rcases hc with hc | hc
      · exact ih (n / 10) (by omega) c hc
      · obtain rfl := List.mem_singleton.1 hc
        unfold IsDig; rw [dig_ofNat (n % 10) (by omega)]; omega
theorem dec_val (n : Nat) : val 0 (Lib.decDigits n) = n := by
  induction n using Nat.strongRecOn with
  | _ n ih =>
    by_cases h : n < 10
    · rw [Lib.decDigits, dif_pos h]; simp only [val]; rw [dig_ofNat n h]; omega
    · rw [Lib.decDigits, dif_neg h, val_snoc, ih (n / 10) (by omega), dig_ofNat (n % 10) (by omega)]; omega
theorem dec_len (k n : Nat) (h : n < 10 ^ (k + 1)) : 1 ≤ (Lib.decDigits n).length ∧ (Lib.decDigits n).length ≤ k + 1 := by
  induction k generalizing n with
  | zero => rw [Lib.decDigits, dif_pos (by simpa using h)]; simp
  | succ k ih =>
    by_cases h9 : n < 10
    · rw [Lib.decDigits, dif_pos h9]; simp
    · rw [Lib.decDigits, dif_neg h9]
      have := ih (n / 10) (by rw [Nat.pow_succ] at h; omega)
      simp; omega
theorem leadG_val (l : List UInt8) : ∀ k x sg, 0 ≤ x → (∀ c ∈ l, IsDig c) → val x l ≤ 999999 → leadG l k x sg = sg * val x l := by
  induction l with
  | nil => intro k x sg _ _ _; rfl
  | cons d r ih =>
    intro k x sg h0 h hv
    have hd := h d (by simp)
    have hm := val_mono (d :: r) x h0 h
    unfold IsDig at hd
    simp only [leadG]
    rw [if_neg (by omega), if_pos ⟨hd.1, hd.2, by omega⟩]
    exact ih _ _ _ (by omega) (fun c hc => h c (by simp [hc])) hv
theorem numOf_list (n : Nat) : (numOf n).data.toList = Lib.decDigits n := by simp [numOf, strOf]
theorem textOf_list_pos (n : Int) (h : 0 ≤ n) : (textOf n).data.toList = Lib.decDigits n.toNat := by rw [textOf_pos n h, numOf_list]
theorem textOf_list_neg (n : Int) (h : n < 0) : (textOf n).data.toList = 45 :: Lib.decDigits (-n).toNat := by
  unfold textOf Lib.itoa; rw [if_pos h, show n.natAbs = (-n).toNat from by omega]; simp [strOf]
theorem lead_text (n : Int) (h0 : -999999 ≤ n) (h1 : n ≤ 999999) : leadG (textOf n).data.toList 0 0 1 = n := by
  by_cases h : 0 ≤ n
  · rw [textOf_list_pos n h, leadG_val _ _ _ _ (by omega) (dec_dig _) (by rw [dec_val]; omega), dec_val]; omega
  · rw [textOf_list_neg n (by omega)]
    simp only [leadG]
    rw [if_pos (by simp), leadG_val _ _ _ _ (by omega) (dec_dig _) (by rw [dec_val]; omega), dec_val]; omega

/-- What ParseInt is to answer at s. -/
def IsParse (s : ByteArray) (r : Int) (b : Bool) : Prop :=
  (b = true ∧ -999999 ≤ r ∧ r ≤ 999999 ∧ s = textOf r) ∨ (b = false ∧ r = 0 ∧ ∀ n, -999999 ≤ n → n ≤ 999999 → s ≠ textOf n)
theorem IsParse.one {s : ByteArray} {r r' : Int} {b b' : Bool} (h : IsParse s r b) (h' : IsParse s r' b') : r = r' ∧ b = b' := by
  rcases h with ⟨rfl, a0, a1, rfl⟩ | ⟨rfl, rfl, a⟩ <;> rcases h' with ⟨rfl, c0, c1, e⟩ | ⟨rfl, rfl, c⟩
  · refine ⟨?_, rfl⟩
    rw [← lead_text r a0 a1, e, lead_text r' c0 c1]
  · exact absurd rfl (c r a0 a1)
  · exact absurd e (a r' c0 c1)
  · exact ⟨rfl, rfl⟩
theorem IsParse.no {s : ByteArray} (h : ∀ n, -999999 ≤ n → n ≤ 999999 → s ≠ textOf n) : IsParse s 0 false := .inr ⟨rfl, rfl, h⟩
theorem IsParse.yes {s : ByteArray} {r : Int} (h0 : -999999 ≤ r) (h1 : r ≤ 999999) (h : s = textOf r) : IsParse s r true := .inl ⟨rfl, h0, h1, h⟩

/-- A decimal text without a sign in front is a natural number's. -/
theorem body_pos {s : ByteArray} {n : Int} (hs : s.size ≤ 1 ∨ ∃ h : 0 < s.size, (s[0].toNat : Int) ≠ 45) (h0 : -999999 ≤ n) (h1 : n ≤ 999999) (e : s = textOf n) :
    1 ≤ s.size ∧ s.size ≤ 6 ∧ (∀ c ∈ s.data.toList, IsDig c) ∧ val 0 s.data.toList = n := by
  have hn : 0 ≤ n := by
    by_cases h : 0 ≤ n
    · exact h
    · exfalso
      have hl := textOf_list_neg n (by omega)
      have hd := dec_len 5 (-n).toNat (by omega)
      rw [← e] at hl
      have hz : s.size = (Lib.decDigits (-n).toNat).length + 1 := by rw [size_list, hl]; simp
      rcases hs with hs | ⟨h, hs⟩
      · omega
      · apply hs
        have : s.data.toList[0]'(by rw [hl]; simp) = 45 := by simp [hl]
        show ((s.data[0]'h).toNat : Int) = 45
        rw [← Array.getElem_toList h, this]; rfl
  have hl := textOf_list_pos n hn
  have hd := dec_len 5 n.toNat (by omega)
  rw [← e] at hl
  have hz : s.size = (Lib.decDigits n.toNat).length := by rw [size_list, hl]
  exact ⟨by omega, by omega, by rw [hl]; exact dec_dig _, by rw [hl, dec_val]; omega⟩
theorem extract_one_list (s : ByteArray) : (s.extract 1 s.size).data.toList = s.data.toList.drop 1 := by
  exact Lib.extract_to_end s 1
theorem extract_one_size (s : ByteArray) : (s.extract 1 s.size).size = s.size - 1 := by simp
/-- One with a sign in front is a negative number's. -/
theorem body_neg {s : ByteArray} {n : Int} (h : 1 < s.size) (hs : (s[0].toNat : Int) = 45) (h0 : -999999 ≤ n) (h1 : n ≤ 999999) (e : s = textOf n) :
    1 ≤ (s.extract 1 s.size).size ∧ (s.extract 1 s.size).size ≤ 6 ∧ (∀ c ∈ (s.extract 1 s.size).data.toList, IsDig c) ∧ val 0 (s.extract 1 s.size).data.toList = -n := by
  have hn : n < 0 := by
    by_cases h' : n < 0
    · exact h'
    · exfalso
      have hl := textOf_list_pos n (by omega)
      rw [← e] at hl
      have hm : s[0] ∈ s.data.toList := by show s.data[0]'(by show 0 < s.size; omega) ∈ s.data.toList; simp
      rw [hl] at hm
      have := (dec_dig _ _ hm).1
      omega
  have hl := textOf_list_neg n hn
  have hd := dec_len 5 (-n).toNat (by omega)
  rw [← e] at hl
  rw [extract_one_size, extract_one_list, hl]
  have hz : s.size = (Lib.decDigits (-n).toNat).length + 1 := by rw [size_list, hl]; simp
  refine ⟨by omega, by omega, by simpa using dec_dig _, ?_⟩
  rw [List.drop_one, List.tail_cons, dec_val]; omega
end Go.Proofs.YtidaoijpbdljbabGreatDoor
namespace Go.Proofs.YtidaoijpbdljbabGreatDoor
open Go.RowKit

/-- The parts of s between the bytes cv, from place f on, those up to place k having been seen. -/
def splitR (s : ByteArray) (cv : Int) (f k : Nat) : List ByteArray :=
  if h : k < s.size then (if (s[k].toNat : Int) = cv then s.extract f k :: splitR s cv (k + 1) (k + 1) else splitR s cv f (k + 1)) else [s.extract f s.size]
termination_by s.size - k
theorem splitR_hit {s : ByteArray} {cv : Int} {f k : Nat} (h : k < s.size) (hc : (s[k].toNat : Int) = cv) : splitR s cv f k = s.extract f k :: splitR s cv (k + 1) (k + 1) := by
  rw [splitR, dif_pos h, if_pos hc]
theorem splitR_miss {s : ByteArray} {cv : Int} {f k : Nat} (h : k < s.size) (hc : (s[k].toNat : Int) ≠ cv) : splitR s cv f k = splitR s cv f (k + 1) := by
  rw [splitR, dif_pos h, if_neg hc]
theorem splitR_end {s : ByteArray} {cv : Int} {f : Nat} : splitR s cv f s.size = [s.extract f s.size] := by
  rw [splitR, dif_neg (by omega)]
theorem splitR_len (s : ByteArray) (cv : Int) : ∀ (d f k : Nat), s.size - k = d → k ≤ s.size → 1 ≤ (splitR s cv f k).length ∧ (splitR s cv f k).length ≤ s.size - k + 1 := by
  intro d
  induction d with
  | zero => intro f k hd hk; obtain rfl : k = s.size := by omega
            rw [splitR_end]; simp
  | succ d ih =>
    intro f k hd hk
    by_cases hc : (s[k].toNat : Int) = cv
    · rw [splitR_hit (by omega) hc]
      have := ih (k + 1) (k + 1) (by omega) (by omega)
      simp; omega
    · rw [splitR_miss (by omega) hc]
      have := ih f (k + 1) (by omega) (by omega)
      omega


set_option maxHeartbeats 1600000 in
set_option maxRecDepth 100000 in
theorem l1Split_any (s : ByteArray) (cv : Int) (w : World) (hs : s.size ≤ 1048576) :
    Calls Tryz.prog 35 #[.string s, .int .u8 cv] w (RowPost (splitR s cv 0 0) w) := by
  obtain ⟨i0, hi, hz0, hz1, hz2⟩ := info_parts infoStr
  go_enter Tryz.func35, Tryz.ntmps35
  go_wp2
  go_loopw [5, 6, 7] (fun o f i wr => ∃ (k fr : Nat) (xs : List ByteArray), k ≤ s.size ∧ fr ≤ k ∧ i = .int .i64 k ∧ f = .int .i64 fr ∧ wr.ownsRow w.heap.size 9 1 o xs.length (xs.map Value.string) ∧ Below w.heap.size w wr ∧ xs.length ≤ k ∧ xs ++ splitR s cv fr k = splitR s cv 0 0) (fun _ _ i _ => s.size - (intOf i).toNat)
  case atStart => exact ⟨0, 0, [], Nat.zero_le _, Nat.zero_le _, rfl, rfl, World.ownsRow_made w #[] 0 (Nat.le_refl _) (Nat.zero_le _) rfl, (Below.refl _ _).alloc (Nat.le_refl _) _, Nat.zero_le _, rfl⟩
  case round =>
    obtain ⟨k, fr, xs, hk, hf, rfl, rfl, hown, hbel, hxl, hsp⟩ := hrel
    have S := Lib.hid hsp
    have B := Lib.hid hbel
    have hle := hbel.size
    clear hsp hbel
    by_cases hlt : k < s.size
    · by_cases hc : (s[k].toNat : Int) = cv
      · have hc' : ((s[k].toNat : Int) == cv) = true := by simpa using hc
        have C := Lib.hid hc
        clear hc
        go_wp2_with (at_builtin; refine wpList_append_own _ rfl _ _ 61 rfl w.heap.size 9 i0 (.string ByteArray.empty) 1 16 Tryz.underlying61 hi hz0 hz1 hz2 rfl (by decide) _ _ _ rfl (hown.alloc _) ⟨wr.heap.size, 0, none⟩ 1 1 [.string (s.extract fr k)] rfl rfl (cell_one _ _ _) (fun x hx => by simp at hx; subst hx; rfl) (by unfold maxLen; omega) (by omega) (by simp; omega) ?_; intro v' w3 hown' hgrow3 hnil3)
        go_roundw
        case rel => exact ⟨k + 1, k + 1, xs ++ [s.extract fr k], by omega, by omega, by go_num, by go_num, by simpa using hown', (B.out.alloc hle _).grown hgrow3 (by simp; omega) (fun j e => (hown.lt j e).1), by simp; omega, by rw [← S.out, splitR_hit hlt C.out]; simp⟩
        case measure => simp [intOf]; omega
      · have hc' : ((s[k].toNat : Int) == cv) = false := by simpa using hc
        have C := Lib.hid hc
        clear hc
        go_wp2
        go_roundw
        case rel => exact ⟨k + 1, fr, xs, by omega, by omega, by go_num, rfl, hown, B.out, by omega, by rw [← S.out, splitR_miss hlt C.out]⟩
        case measure => simp [intOf]; omega
    · obtain rfl : k = s.size := by omega
      go_wp2_with (at_builtin; refine wpList_append_own _ rfl _ _ 61 rfl w.heap.size 9 i0 (.string ByteArray.empty) 1 16 Tryz.underlying61 hi hz0 hz1 hz2 rfl (by decide) _ _ _ rfl (hown.alloc _) ⟨wr.heap.size, 0, none⟩ 1 1 [.string (s.extract fr s.size)] rfl rfl (cell_one _ _ _) (fun x hx => by simp at hx; subst hx; rfl) (by unfold maxLen; omega) (by omega) (by simp; omega) ?_; intro v' w3 hown' hgrow3 hnil3)
      have E := S.out
      rw [splitR_end] at E
      have hb3 : Below w.heap.size w w3 := (B.out.alloc hle _).grown hgrow3 (by simp; omega) (fun j e => (hown.lt j e).1)
      go_ret
      exact ⟨v', rfl, by rw [← E]; simpa using hown', hb3⟩
end Go.Proofs.YtidaoijpbdljbabGreatDoor
namespace Go.Proofs.YtidaoijpbdljbabGreatDoor
open Go.RowKit

/-- Stands the byte cv among the bytes l? -/
def stands (l : List UInt8) (cv : Int) : Bool := l.any fun x => (x.toNat : Int) == cv
theorem stands_snoc (l : List UInt8) (c : UInt8) (cv : Int) : stands (l ++ [c]) cv = (stands l cv || (c.toNat : Int) == cv) := by simp [stands]
theorem stands_of_take {l : List UInt8} {cv : Int} (k : Nat) (h : stands (l.take k) cv = true) : stands l cv = true := by
  unfold stands at *; rw [List.any_eq_true] at *
  obtain ⟨x, hx, hc⟩ := h
  exact ⟨x, List.mem_of_mem_take hx, hc⟩
theorem stands_index (l : List UInt8) (c : UInt8) : decide (0 ≤ Lib.indexByte l c) = stands l (c.toNat : Int) := by
  rw [← Lib.contains_iff_indexByte]
  unfold stands
  rw [Bool.eq_iff_iff, List.any_eq_true, List.contains_iff_mem]
  constructor
  · intro h; exact ⟨c, h, by simp⟩
  · rintro ⟨x, hx, he⟩
    have : x = c := UInt8.toNat_inj.1 (by simp at he; omega)
    exact this ▸ hx

end Go.Proofs.YtidaoijpbdljbabGreatDoor
namespace Go.Proofs.YtidaoijpbdljbabGreatDoor
open Go.RowKit

theorem extract_list' (s : ByteArray) (f k : Nat) : (s.extract f k).data.toList = (s.data.toList.drop f).take (k - f) := by
  simp [List.extract]
theorem join_cons' (x : List UInt8) (l : List (List UInt8)) (sep : List UInt8) (h : l ≠ []) : Lib.join (x :: l) sep = x ++ sep ++ Lib.join l sep := by
  obtain ⟨y, r, rfl⟩ := List.exists_cons_of_ne_nil h
  rw [Lib.join_cons, Lib.join_cons]
  simp [Lib.joinTail]
theorem part_snoc' (s : ByteArray) (f k : Nat) (hf : f ≤ k) (hk : k < s.size) : (s.data.toList.drop f).take (k + 1 - f) = (s.data.toList.drop f).take (k - f) ++ [s[k]] := by
  rw [show k + 1 - f = (k - f) + 1 by omega, List.take_add_one, List.getElem?_drop, show f + (k - f) = k by omega]
  have h : s.data.toList[k]? = some s[k] := by
    rw [List.getElem?_eq_getElem (by rw [← size_list]; exact hk)]
    rfl
  rw [h]; rfl
theorem part_cons' (s : ByteArray) (f k : Nat) (hf : f ≤ k) (hk : k < s.size) : s.data.toList.drop f = (s.data.toList.drop f).take (k - f) ++ [s[k]] ++ s.data.toList.drop (k + 1) := by
  have h := (List.take_append_drop (k - f) (s.data.toList.drop f)).symm
  rw [List.drop_drop, show f + (k - f) = k by omega, drop_cons s k hk] at h
  simpa using h
theorem split_back' (s : ByteArray) (c : UInt8) : ∀ (d f k : Nat), s.size - k = d → k ≤ s.size → f ≤ k → stands ((s.data.toList.drop f).take (k - f)) (c.toNat : Int) = false →
    (splitR s (c.toNat : Int) f k ≠ [] ∧ Lib.join ((splitR s (c.toNat : Int) f k).map (·.data.toList)) [c] = s.data.toList.drop f ∧ ∀ x ∈ splitR s (c.toNat : Int) f k, stands x.data.toList (c.toNat : Int) = false) := by
  intro d
  induction d with
  | zero =>
    intro f k hd hk hf hst
    obtain rfl : k = s.size := by omega
    rw [splitR_end]
    refine ⟨by simp, ?_, fun x hx => ?_⟩
    · simp only [List.map_cons, List.map_nil, extract_list']
      have : Lib.join [(s.data.toList.drop f).take (s.size - f)] [c] = (s.data.toList.drop f).take (s.size - f) := Lib.join_one _ _
      rw [this]
      exact List.take_of_length_le (by rw [List.length_drop, ← size_list]; exact Nat.le_refl _)
    · obtain rfl := List.mem_singleton.1 hx
      rw [extract_list']; exact hst
  | succ d ih =>
    intro f k hd hk hf hst
    by_cases hc : (s[k].toNat : Int) = (c.toNat : Int)
    · obtain ⟨i0, i1, i2⟩ := ih (k + 1) (k + 1) (by omega) (by omega) (Nat.le_refl _) (by simp [stands])
      rw [splitR_hit (by omega) hc]
      refine ⟨by simp, ?_, fun x hx => ?_⟩
      · rw [List.map_cons, join_cons' _ _ _ (by simpa using i0), i1, extract_list']
        have e : s[k] = c := UInt8.toNat_inj.1 (by omega)
        rw [← e]
        exact (part_cons' s f k hf (by omega)).symm
      · rcases List.mem_cons.1 hx with rfl | hx
        · rw [extract_list']; exact hst
        · exact i2 x hx
    · rw [splitR_miss (by omega) hc]
      refine ih f (k + 1) (by omega) (by omega) (by omega) ?_
      rw [part_snoc' s f k hf (by omega), stands_snoc, hst]
      simpa using hc

theorem sep_inj {c : UInt8} : ∀ {x y A B : List UInt8}, c ∉ x → c ∉ y → x ++ c :: A = y ++ c :: B → x = y ∧ A = B
  | [], [], _, _, _, _, h => ⟨rfl, by simpa using h⟩
  | [], b :: y, _, _, _, hy, h => by simp at h; exact absurd (by rw [h.1]; simp) hy
  | a :: x, [], _, _, hx, _, h => by simp at h; exact absurd (by rw [h.1]; simp) hx
  | a :: x, b :: y, A, B, hx, hy, h => by
    simp at h hx hy
    obtain ⟨h1, h2⟩ := sep_inj (x := x) (y := y) (A := A) (B := B) hx.2 hy.2 h.2
    exact ⟨by rw [h.1, h1], h2⟩
theorem join_inj {c : UInt8} : ∀ (xs ys : List (List UInt8)), (∀ x ∈ xs, c ∉ x) → (∀ y ∈ ys, c ∉ y) → xs ≠ [] → ys ≠ [] → Lib.join xs [c] = Lib.join ys [c] → xs = ys
  | [], _, _, _, h, _, _ => absurd rfl h
  | _, [], _, _, _, h, _ => absurd rfl h
  | [x], [y], _, _, _, _, h => by rw [Lib.join_one, Lib.join_one] at h; rw [h]
  | [x], y :: z :: r, hx, _, _, _, h => by
    rw [Lib.join_one, join_cons' y (z :: r) [c] (by simp)] at h
    exact absurd (by rw [h]; simp) (hx x (by simp))
  | x :: z :: r, [y], _, hy, _, _, h => by
    rw [Lib.join_one, join_cons' x (z :: r) [c] (by simp)] at h
    exact absurd (by rw [← h]; simp) (hy y (by simp))
  | x :: z :: r, y :: z' :: r', hx, hy, _, _, h => by
    rw [join_cons' x (z :: r) [c] (by simp), join_cons' y (z' :: r') [c] (by simp)] at h
    obtain ⟨h1, h2⟩ := sep_inj (A := Lib.join (z :: r) [c]) (B := Lib.join (z' :: r') [c]) (hx x (by simp)) (hy y (by simp)) (by simpa using h)
    rw [h1, join_inj (z :: r) (z' :: r') (fun u hu => hx u (List.mem_cons_of_mem _ hu)) (fun u hu => hy u (List.mem_cons_of_mem _ hu)) (by simp) (by simp) h2]
theorem stands_mem {l : List UInt8} {c : UInt8} (h : stands l (c.toNat : Int) = false) : c ∉ l := by
  intro hc
  unfold stands at h
  rw [List.any_eq_false] at h
  exact h c hc (by simp)
/-- The parts of a text that is put together of parts without the byte. -/
theorem splitR_of (s : ByteArray) (c : UInt8) (ws : List ByteArray) (hne : ws ≠ []) (hc : ∀ x ∈ ws, c ∉ x.data.toList) (h : s.data.toList = Lib.join (ws.map (·.data.toList)) [c]) : splitR s (c.toNat : Int) 0 0 = ws := by
  obtain ⟨i0, i1, i2⟩ := split_back' s c _ 0 0 rfl (by omega) (Nat.le_refl _) (by simp [stands])
  rw [List.drop_zero, h] at i1
  have e := join_inj _ _ (fun x hx => by
    obtain ⟨y, hy, rfl⟩ := List.mem_map.1 hx
    exact stands_mem (i2 y hy)) (fun x hx => by
    obtain ⟨y, hy, rfl⟩ := List.mem_map.1 hx
    exact hc y hy) (by simpa using i0) (by simpa using hne) i1
  have hinj : ∀ (a b : List ByteArray), a.map (·.data.toList) = b.map (·.data.toList) → a = b := by
    intro a
    induction a with
    | nil => intro b hb; cases b <;> simp at hb; rfl
    | cons x a ih =>
      intro b hb
      cases b with
      | nil => simp at hb
      | cons y b =>
        simp only [List.map_cons, List.cons.injEq] at hb
        rw [bytes_ext hb.1, ih b hb.2]
  exact hinj _ _ e
end Go.Proofs.YtidaoijpbdljbabGreatDoor
namespace Go.Proofs.YtidaoijpbdljbabGreatDoor
open Go.RowKit

/-- The answer at s, the world having drawn. -/
def ReadPost (s : ByteArray) (w : World) (e : Ending) (w' : World) : Prop := ∃ r b, e = .returned (.tuple #[.int .i64 r, .bool b]) ∧ IsParse s r b ∧ ∃ m, w' = w.drewN m
/-- What is known of s where its body t (the text, or what stands behind a sign) is to be a decimal text. -/
def BodyFact (s t : ByteArray) (sg : Int) : Prop := ∀ n : Int, -999999 ≤ n → n ≤ 999999 → s = textOf n → 1 ≤ t.size ∧ t.size ≤ 6 ∧ (∀ c ∈ t.data.toList, IsDig c) ∧ val 0 t.data.toList = sg * n

set_option maxHeartbeats 1600000 in
theorem read_short (s : ByteArray) (w : World) (hs : s.size ≤ 1048576) (h0 : s.size ≤ 1) (B : Hid (BodyFact s s 1)) :
    Calls Tryz.prog 36 #[.string s] w (ReadPost s w) := by
  by_cases h6 : 6 < s.size
  · omega
  by_cases h1 : s.size < 1
  · go_enter Tryz.func36, Tryz.ntmps36
    go_wp2_with (go_at_call 56; refine (l1In_low _ _ _ _ (by omega)).mono ?_; rintro e w' ⟨rfl, rfl⟩)
    go_ret2
    exact ⟨_, _, rfl, IsParse.no (fun n a b e => by have := (B.out n a b e).1; omega), 0, rfl⟩
  go_enter Tryz.func36, Tryz.ntmps36
  go_wp2_with (go_at_call 56; refine (l1In_yes _ _ _ _ (by omega) (by omega)).mono ?_; rintro e w' ⟨rfl, rfl⟩)
  go_loop [5, 6] (fun n i => ∃ (k : Nat) (x : Int), k ≤ s.size ∧ i = .int .i64 k ∧ n = .int .i64 x ∧ 0 ≤ x ∧ x ≤ 999999 ∧ x = val 0 (s.data.toList.take k) ∧ (∀ c ∈ s.data.toList.take k, IsDig c)) (fun _ i => s.size - (intOf i).toNat)
  case atStart => exact ⟨0, 0, Nat.zero_le _, rfl, rfl, by omega, by omega, rfl, by simp⟩
  case round =>
    obtain ⟨k, x, hk, rfl, rfl, hx0, hx1, hx, hdg⟩ := hrel
    have X := Lib.hid hx
    have DG := Lib.hid hdg
    clear hx hdg
    by_cases hlt : k < s.size
    · have hu : (s[k].toNat : Int) ≤ 255 := by have := s[k].toNat_lt; omega
      have D := Lib.hid (take_snoc s k hlt)
      have M := Lib.hid (show s[k] ∈ s.data.toList from by show s.data[k] ∈ s.data.toList; simp)
      by_cases h48 : (s[k].toNat : Int) < 48
      · go_wp2
        go_ret2
        exact ⟨_, _, rfl, IsParse.no (fun n a b e => by have := (B.out n a b e).2.2.1 _ M.out; unfold IsDig at this; omega), 0, rfl⟩
      by_cases h57 : 57 < (s[k].toNat : Int)
      · go_wp2
        go_ret2
        exact ⟨_, _, rfl, IsParse.no (fun n a b e => by have := (B.out n a b e).2.2.1 _ M.out; unfold IsDig at this; omega), 0, rfl⟩
      have h57' : decide (57 < (s[k].toNat : Int)) = false := by simp; omega
      have DG' : Hid (∀ c ∈ s.data.toList.take (k + 1), IsDig c) := by
        intro c hc
        rw [D.out, List.mem_append] at hc
        rcases hc with hc | hc
        · exact DG.out c hc
        · obtain rfl := List.mem_singleton.1 hc; exact ⟨by omega, by omega⟩
      have VV := Lib.hid (show val 0 (s.data.toList.take (k + 1)) = 10 * x + ((s[k].toNat : Int) - 48) from by rw [D.out, val_snoc, ← X.out])
      have hb := val_six _ (by simp; omega) DG'.out
      rw [VV.out] at hb
      obtain ⟨b0, b1⟩ := hb
      go_wp2
      go_round
      case rel => exact ⟨k + 1, 10 * x + ((s[k].toNat : Int) - 48), by omega, by go_num, by go_num, by omega, by omega, VV.out.symm, DG'.out⟩
      case measure => simp [intOf]; omega
    · obtain rfl : k = s.size := by omega
      have X' := Lib.hid (X.out.trans (by rw [take_all]))
      clear X DG hlt
      go_wp2_with (go_at_call 61; refine (l1Num_any _ _ (by omega) (by omega)).mono ?_; rintro e w' ⟨rfl, m, rfl⟩)
      · have hq : (!(textOf (x)).toList == s.toList) = true := by assumption
        go_ret2
        exact ⟨_, _, rfl, IsParse.no (fun n a b e => ne_test hq (by rw [show x = n from by have := (B.out n a b e).2.2.2; have := X'.out; omega]; exact e.symm)), _, rfl⟩
      · have hq : (!(textOf (x)).toList == s.toList) = false := by assumption
        go_ret2
        exact ⟨_, _, rfl, IsParse.yes (by omega) (by omega) (eq_test hq).symm, _, rfl⟩
set_option maxHeartbeats 1600000 in
theorem read_long (s : ByteArray) (w : World) (hs : s.size ≤ 1048576) (h0 : 1 < s.size) (hp : ((s[0].toNat : Int) == 45) = false) (B : Hid (BodyFact s s 1)) :
    Calls Tryz.prog 36 #[.string s] w (ReadPost s w) := by
  by_cases h6 : 6 < s.size
  · go_enter Tryz.func36, Tryz.ntmps36
    go_wp2_with (go_at_call 56; refine (l1In_high _ _ _ _ (by omega)).mono ?_; rintro e w' ⟨rfl, rfl⟩)
    go_ret2
    exact ⟨_, _, rfl, IsParse.no (fun n a b e => by have := (B.out n a b e).2.1; omega), 0, rfl⟩
  by_cases h1 : s.size < 1
  · omega
  go_enter Tryz.func36, Tryz.ntmps36
  go_wp2_with (go_at_call 56; refine (l1In_yes _ _ _ _ (by omega) (by omega)).mono ?_; rintro e w' ⟨rfl, rfl⟩)
  go_loop [5, 6] (fun n i => ∃ (k : Nat) (x : Int), k ≤ s.size ∧ i = .int .i64 k ∧ n = .int .i64 x ∧ 0 ≤ x ∧ x ≤ 999999 ∧ x = val 0 (s.data.toList.take k) ∧ (∀ c ∈ s.data.toList.take k, IsDig c)) (fun _ i => s.size - (intOf i).toNat)
  case atStart => exact ⟨0, 0, Nat.zero_le _, rfl, rfl, by omega, by omega, rfl, by simp⟩
  case round =>
    obtain ⟨k, x, hk, rfl, rfl, hx0, hx1, hx, hdg⟩ := hrel
    have X := Lib.hid hx
    have DG := Lib.hid hdg
    clear hx hdg
    by_cases hlt : k < s.size
    · have hu : (s[k].toNat : Int) ≤ 255 := by have := s[k].toNat_lt; omega
      have D := Lib.hid (take_snoc s k hlt)
      have M := Lib.hid (show s[k] ∈ s.data.toList from by show s.data[k] ∈ s.data.toList; simp)
      by_cases h48 : (s[k].toNat : Int) < 48
      · go_wp2
        go_ret2
        exact ⟨_, _, rfl, IsParse.no (fun n a b e => by have := (B.out n a b e).2.2.1 _ M.out; unfold IsDig at this; omega), 0, rfl⟩
      by_cases h57 : 57 < (s[k].toNat : Int)
      · go_wp2
        go_ret2
        exact ⟨_, _, rfl, IsParse.no (fun n a b e => by have := (B.out n a b e).2.2.1 _ M.out; unfold IsDig at this; omega), 0, rfl⟩
      have h57' : decide (57 < (s[k].toNat : Int)) = false := by simp; omega
      have DG' : Hid (∀ c ∈ s.data.toList.take (k + 1), IsDig c) := by
        intro c hc
        rw [D.out, List.mem_append] at hc
        rcases hc with hc | hc
        · exact DG.out c hc
        · obtain rfl := List.mem_singleton.1 hc; exact ⟨by omega, by omega⟩
      have VV := Lib.hid (show val 0 (s.data.toList.take (k + 1)) = 10 * x + ((s[k].toNat : Int) - 48) from by rw [D.out, val_snoc, ← X.out])
      have hb := val_six _ (by simp; omega) DG'.out
      rw [VV.out] at hb
      obtain ⟨b0, b1⟩ := hb
      go_wp2
      go_round
      case rel => exact ⟨k + 1, 10 * x + ((s[k].toNat : Int) - 48), by omega, by go_num, by go_num, by omega, by omega, VV.out.symm, DG'.out⟩
      case measure => simp [intOf]; omega
    · obtain rfl : k = s.size := by omega
      have X' := Lib.hid (X.out.trans (by rw [take_all]))
      clear X DG hlt
      go_wp2_with (go_at_call 61; refine (l1Num_any _ _ (by omega) (by omega)).mono ?_; rintro e w' ⟨rfl, m, rfl⟩)
      · have hq : (!(textOf (x)).toList == s.toList) = true := by assumption
        go_ret2
        exact ⟨_, _, rfl, IsParse.no (fun n a b e => ne_test hq (by rw [show x = n from by have := (B.out n a b e).2.2.2; have := X'.out; omega]; exact e.symm)), _, rfl⟩
      · have hq : (!(textOf (x)).toList == s.toList) = false := by assumption
        go_ret2
        exact ⟨_, _, rfl, IsParse.yes (by omega) (by omega) (eq_test hq).symm, _, rfl⟩
set_option maxHeartbeats 1600000 in
theorem read_neg (s : ByteArray) (w : World) (hs : s.size ≤ 1048576) (t : ByteArray) (h0 : 1 < s.size) (hp : ((s[0].toNat : Int) == 45) = true) (ht : s.extract 1 s.size = t) (hts : t.size < s.size) (B : Hid (BodyFact s t (-1))) :
    Calls Tryz.prog 36 #[.string s] w (ReadPost s w) := by
  by_cases h6 : 6 < t.size
  · go_enter Tryz.func36, Tryz.ntmps36
    go_wp2_with (go_at_call 56; refine (l1In_high _ _ _ _ (by omega)).mono ?_; rintro e w' ⟨rfl, rfl⟩)
    go_ret2
    exact ⟨_, _, rfl, IsParse.no (fun n a b e => by have := (B.out n a b e).2.1; omega), 0, rfl⟩
  by_cases h1 : t.size < 1
  · go_enter Tryz.func36, Tryz.ntmps36
    go_wp2_with (go_at_call 56; refine (l1In_low _ _ _ _ (by omega)).mono ?_; rintro e w' ⟨rfl, rfl⟩)
    go_ret2
    exact ⟨_, _, rfl, IsParse.no (fun n a b e => by have := (B.out n a b e).1; omega), 0, rfl⟩
  go_enter Tryz.func36, Tryz.ntmps36
  go_wp2_with (go_at_call 56; refine (l1In_yes _ _ _ _ (by omega) (by omega)).mono ?_; rintro e w' ⟨rfl, rfl⟩)
  go_loop [5, 6] (fun n i => ∃ (k : Nat) (x : Int), k ≤ t.size ∧ i = .int .i64 k ∧ n = .int .i64 x ∧ 0 ≤ x ∧ x ≤ 999999 ∧ x = val 0 (t.data.toList.take k) ∧ (∀ c ∈ t.data.toList.take k, IsDig c)) (fun _ i => t.size - (intOf i).toNat)
  case atStart => exact ⟨0, 0, Nat.zero_le _, rfl, rfl, by omega, by omega, rfl, by simp⟩
  case round =>
    obtain ⟨k, x, hk, rfl, rfl, hx0, hx1, hx, hdg⟩ := hrel
    have X := Lib.hid hx
    have DG := Lib.hid hdg
    clear hx hdg
    by_cases hlt : k < t.size
    · have hu : (t[k].toNat : Int) ≤ 255 := by have := t[k].toNat_lt; omega
      have D := Lib.hid (take_snoc t k hlt)
      have M := Lib.hid (show t[k] ∈ t.data.toList from by show t.data[k] ∈ t.data.toList; simp)
      by_cases h48 : (t[k].toNat : Int) < 48
      · go_wp2
        go_ret2
        exact ⟨_, _, rfl, IsParse.no (fun n a b e => by have := (B.out n a b e).2.2.1 _ M.out; unfold IsDig at this; omega), 0, rfl⟩
      by_cases h57 : 57 < (t[k].toNat : Int)
      · go_wp2
        go_ret2
        exact ⟨_, _, rfl, IsParse.no (fun n a b e => by have := (B.out n a b e).2.2.1 _ M.out; unfold IsDig at this; omega), 0, rfl⟩
      have h57' : decide (57 < (t[k].toNat : Int)) = false := by simp; omega
      have DG' : Hid (∀ c ∈ t.data.toList.take (k + 1), IsDig c) := by
        intro c hc
        rw [D.out, List.mem_append] at hc
        rcases hc with hc | hc
        · exact DG.out c hc
        · obtain rfl := List.mem_singleton.1 hc; exact ⟨by omega, by omega⟩
      have VV := Lib.hid (show val 0 (t.data.toList.take (k + 1)) = 10 * x + ((t[k].toNat : Int) - 48) from by rw [D.out, val_snoc, ← X.out])
      have hb := val_six _ (by simp; omega) DG'.out
      rw [VV.out] at hb
      obtain ⟨b0, b1⟩ := hb
      go_wp2
      go_round
      case rel => exact ⟨k + 1, 10 * x + ((t[k].toNat : Int) - 48), by omega, by go_num, by go_num, by omega, by omega, VV.out.symm, DG'.out⟩
      case measure => simp [intOf]; omega
    · obtain rfl : k = t.size := by omega
      have X' := Lib.hid (X.out.trans (by rw [take_all]))
      clear X DG hlt
      go_wp2_with (go_at_call 61; refine (l1Num_any _ _ (by omega) (by omega)).mono ?_; rintro e w' ⟨rfl, m, rfl⟩)
      · have hq : (!(textOf (-x)).toList == s.toList) = true := by assumption
        go_ret2
        exact ⟨_, _, rfl, IsParse.no (fun n a b e => ne_test hq (by rw [show -x = n from by have := (B.out n a b e).2.2.2; have := X'.out; omega]; exact e.symm)), _, rfl⟩
      · have hq : (!(textOf (-x)).toList == s.toList) = false := by assumption
        go_ret2
        exact ⟨_, _, rfl, IsParse.yes (by omega) (by omega) (eq_test hq).symm, _, rfl⟩
theorem read_any (s : ByteArray) (w : World) (hs : s.size ≤ 1048576) :
    Calls Tryz.prog 36 #[.string s] w (ReadPost s w) := by
  by_cases h : s.size ≤ 1
  · exact read_short s w hs h (fun n a b e => by have := body_pos (.inl h) a b e; refine ⟨this.1, this.2.1, this.2.2.1, by omega⟩)
  by_cases h45 : (s[0].toNat : Int) = 45
  · exact read_neg s w hs _ (by omega) (by simpa using h45) rfl (by rw [extract_one_size]; omega) (fun n a b e => by have := body_neg (by omega) h45 a b e; refine ⟨this.1, this.2.1, this.2.2.1, by omega⟩)
  · exact read_long s w hs (by omega) (by simpa using h45) (fun n a b e => by have := body_pos (.inr ⟨by omega, h45⟩) a b e; refine ⟨this.1, this.2.1, this.2.2.1, by omega⟩)
/-- The answer at s, the world below as it was. -/
def ReadBelow (s : ByteArray) (w : World) (e : Ending) (w' : World) : Prop := ∃ r b, e = .returned (.tuple #[.int .i64 r, .bool b]) ∧ IsParse s r b ∧ Below w.heap.size w w'
theorem implParse (s : ByteArray) (w : World) (hs : s.size ≤ 1048576) (ht : TabPow w) :
    Calls Tryz.prog 63 #[.string s] w (ReadBelow s w) := by
  have T := Lib.hid ht
  clear ht
  by_cases h : leadG s.data.toList 0 0 1 < -999999 ∨ 999999 < leadG s.data.toList 0 0 1
  · have O := Lib.hid h
    clear h
    go_enter Tryz.func63, Tryz.ntmps63
    go_wp2_with (first
      | (go_at_call 77; refine (leading_any _ _ (by omega)).mono ?_; rintro e w' ⟨rfl, rfl⟩)
      | (go_at_call 78; refine (implFormatInt_out _ _ O.out).mono ?_; rintro e w' ⟨rfl, rfl⟩))
    go_ret2
    exact ⟨_, _, rfl, IsParse.no (fun n a b e => by have := lead_text n a b; rw [← e] at this; have := O.out; omega), Below.refl _ _⟩
  obtain ⟨n, hn⟩ : ∃ n, leadG s.data.toList 0 0 1 = n := ⟨_, rfl⟩
  rw [hn] at h
  have N := Lib.hid hn
  have h0 : -999999 ≤ n := by omega
  have h1 : n ≤ 999999 := by omega
  clear h hn
  go_enter Tryz.func63, Tryz.ntmps63
  go_wp2_with (first
      | (go_at_call 77; refine (leading_any _ _ (by omega)).mono ?_; rw [N.out]; rintro e w' ⟨rfl, rfl⟩)
      | (go_at_call 78; refine (implFormatInt_in _ _ h0 h1 T.out).mono ?_; rintro e w' ⟨rfl, hb⟩))
  · have hq : (!(textOf n).toList == s.toList) = true := by assumption
    go_ret2
    exact ⟨_, _, rfl, IsParse.no (fun m a b e => ne_test hq (by rw [← N.out, e, lead_text m a b])), hb⟩
  · have hq : (!(textOf n).toList == s.toList) = false := by assumption
    go_ret2
    exact ⟨_, _, rfl, IsParse.yes h0 h1 (eq_test hq).symm, hb⟩
end Go.Proofs.YtidaoijpbdljbabGreatDoor
namespace Go.Proofs.YtidaoijpbdljbabGreatDoor
open Go.RowKit

/-- What ParseInt answers. -/
def parseV (s : ByteArray) : Int × Bool :=
  if -999999 ≤ leadG s.data.toList 0 0 1 ∧ leadG s.data.toList 0 0 1 ≤ 999999 ∧ (textOf (leadG s.data.toList 0 0 1)).data.toList = s.data.toList then (leadG s.data.toList 0 0 1, true) else (0, false)
theorem parseV_is (s : ByteArray) : IsParse s (parseV s).1 (parseV s).2 := by
  unfold parseV
  split
  · rename_i h
    exact IsParse.yes h.1 h.2.1 (bytes_ext h.2.2).symm
  · rename_i h
    refine IsParse.no fun n a b e => h ?_
    have := lead_text n a b
    rw [← e] at this
    rw [this]
    exact ⟨a, b, by rw [e]⟩
theorem parseV_text {n : Int} (h0 : -999999 ≤ n) (h1 : n ≤ 999999) : parseV (textOf n) = (n, true) := by
  obtain ⟨h2, h3⟩ := (parseV_is (textOf n)).one (IsParse.yes h0 h1 rfl)
  exact Prod.ext h2 h3
theorem parseV_sound {s : ByteArray} (h : (parseV s).2 = true) : -999999 ≤ (parseV s).1 ∧ (parseV s).1 ≤ 999999 ∧ s = textOf (parseV s).1 := by
  rcases parseV_is s with ⟨_, a, b, e⟩ | ⟨h2, _⟩
  · exact ⟨a, b, e⟩
  · rw [h] at h2; cases h2

/-- A text cut at a mark. -/
def cutB (s m : ByteArray) : ByteArray × ByteArray × Bool := (⟨(Lib.cut s.data.toList m.data.toList).1.toArray⟩, ⟨(Lib.cut s.data.toList m.data.toList).2.1.toArray⟩, (Lib.cut s.data.toList m.data.toList).2.2)
theorem cut_size (s m : ByteArray) : (cutB s m).1.size ≤ s.size ∧ (cutB s m).2.1.size ≤ s.size := by
  unfold cutB Lib.cut
  split
  · constructor
    · show (List.toArray _).size ≤ _
      rw [size_list]; simp; omega
    · show (List.toArray _).size ≤ _
      rw [size_list]; simp
  · constructor
    · show (List.toArray _).size ≤ _
      rw [size_list]; simp
    · exact Nat.zero_le _
theorem occ_of {s m : List UInt8} {i : Nat} (h : Lib.occAt s m i = true) : ∃ r, s.drop i = m ++ r := by
  unfold Lib.occAt at h
  obtain ⟨r, hr⟩ := List.isPrefixOf_iff_prefix.1 h
  exact ⟨r, hr.symm⟩
theorem cut_sound {s m : ByteArray} (h : (cutB s m).2.2 = true) : s.data.toList = (cutB s m).1.data.toList ++ (m.data.toList ++ (cutB s m).2.1.data.toList) := by
  unfold cutB Lib.cut at *
  split at h
  · rename_i h0
    rw [if_pos h0]
    rcases Lib.index_spec s.data.toList m.data.toList with ⟨h1, _⟩ | ⟨i, h1, h2, h3, _⟩
    · omega
    · obtain ⟨r, hr⟩ := occ_of h3
      simp only [h1, Int.toNat_natCast]
      conv => lhs; rw [← List.take_append_drop i s.data.toList]
      congr 1
      rw [← List.drop_drop, hr]
      simp
  · cases h
/-- Where a mark stands behind bytes that it cannot begin in, it is cut there. -/
theorem cut_at (t m r : List UInt8) (c : UInt8) (p : Nat) (hm : m[p]? = some c) (hp : ∀ j, j < p → m[j]? ≠ some c) (ht : c ∉ t) : Lib.cut (t ++ (m ++ r)) m = (t, r, true) := by
  have hi : Lib.index (t ++ (m ++ r)) m = (t.length : Int) := by
    refine Lib.index_first (by simp) ?_ ?_
    · unfold Lib.occAt
      rw [List.isPrefixOf_iff_prefix]
      exact ⟨r, by simp⟩
    · intro j hj
      rw [Bool.eq_false_iff]
      intro h
      obtain ⟨r', hr'⟩ := occ_of h
      have h1 : (t ++ (m ++ r))[j + p]? = some c := by
        rw [← List.getElem?_drop, hr', List.getElem?_append_left (List.getElem?_eq_some_iff.1 hm).1]; exact hm
      by_cases hlt : j + p < t.length
      · rw [List.getElem?_append_left hlt] at h1
        exact ht (List.mem_of_getElem? h1)
      · rw [List.getElem?_append_right (by omega)] at h1
        have hpm := (List.getElem?_eq_some_iff.1 hm).1
        rw [List.getElem?_append_left (by omega)] at h1
        exact hp _ (by omega) h1
  unfold Lib.cut
  rw [if_pos (by rw [hi]; omega), hi]
  simp
theorem text_digs {n : Int} (h : 0 ≤ n) {c : UInt8} (hc : c.toNat < 48 ∨ 57 < c.toNat) : c ∉ (textOf n).data.toList := by
  rw [textOf_list_pos n h]
  intro hm
  have := dec_dig _ c hm
  unfold IsDig at this
  omega
theorem keepCell {w w' : World} {b o : Nat} {v : Value} (h : w.cell? ⟨b, o, none⟩ = some v) (hb : Below w.heap.size w w') : w'.cell? ⟨b, o, none⟩ = some v := (hb.cell (p := ⟨b, o, none⟩) (World.lt_of_cell h)).trans h
theorem implParseV (s : ByteArray) (w : World) (hs : s.size ≤ 1048576) (ht : TabPow w) :
    Calls Tryz.prog 63 #[.string s] w fun e w' => e = .returned (.tuple #[.int .i64 (parseV s).1, .bool (parseV s).2]) ∧ Below w.heap.size w w' :=
  (implParse s w hs ht).mono fun _ _ ⟨r, b, he, hp, hb⟩ => by
    obtain ⟨rfl, rfl⟩ := hp.one (parseV_is s)
    exact ⟨he, hb⟩
theorem cut_any (s m : ByteArray) (x : Int) (w : World) (hs : s.size ≤ 1048576) (hm : w.cell? ⟨1, 0, none⟩ = some (.int .i64 x)) :
    Calls Tryz.prog 62 #[.string s, .string m] w fun e w' => e = .returned (.tuple #[.string (cutB s m).1, .string (cutB s m).2.1, .bool (cutB s m).2.2]) ∧ Below w.heap.size w w' :=
  (Tryz.strings_Cut s m x w (by omega) hm).mono fun _ _ ⟨he, n, hw⟩ => ⟨he, hw ▸ bel_drawn _ _⟩

/-- What numbersBetween gives. -/
theorem readV (s : ByteArray) (w : World) (hs : s.size ≤ 1048576) :
    Calls Tryz.prog 36 #[.string s] w fun e w' => e = .returned (.tuple #[.int .i64 (parseV s).1, .bool (parseV s).2]) ∧ ∃ m, w' = w.drewN m :=
  (read_any s w hs).mono fun _ _ ⟨r, b, he, hp, hb⟩ => by
    obtain ⟨rfl, rfl⟩ := hp.one (parseV_is s)
    exact ⟨he, hb⟩
set_option maxHeartbeats 800000 in
theorem splitR_small (s : ByteArray) (cv : Int) : ∀ (d f k : Nat), s.size - k = d → k ≤ s.size → ∀ x ∈ splitR s cv f k, x.size ≤ s.size := by
  intro d
  induction d with
  | zero =>
    intro f k hd hk x hx
    obtain rfl : k = s.size := by omega
    rw [splitR_end] at hx
    obtain rfl := List.mem_singleton.1 hx
    rw [ByteArray.size_extract]; omega
  | succ d ih =>
    intro f k hd hk x hx
    by_cases hc : (s[k].toNat : Int) = cv
    · rw [splitR_hit (by omega) hc] at hx
      rcases List.mem_cons.1 hx with rfl | hx
      · rw [ByteArray.size_extract]; omega
      · exact ih (k + 1) (k + 1) (by omega) (by omega) x hx
    · rw [splitR_miss (by omega) hc] at hx
      exact ih f (k + 1) (by omega) (by omega) x hx

end Go.Proofs.YtidaoijpbdljbabGreatDoor
