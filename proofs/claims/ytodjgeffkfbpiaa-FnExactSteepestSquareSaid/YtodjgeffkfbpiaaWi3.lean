/- Reliefs in the program: reliefSquares. -/
import Derived.Test.YtodjgeffkfbpiaaWi2
import Derived.Test.YtodjgeffkfbpiaaIntA2O
namespace Go.Proofs.Ytodjgeffkfbpiaa
open Go.RowKit

def sqV (l : List Sq) : List VIntA2 := l.map vsq
theorem sqV_len (l : List Sq) : (sqV l).length = l.length := by simp [sqV]
theorem sqV_snoc (l : List Sq) (p : Sq) : sqV (l ++ [p]) = sqV l ++ [vsq p] := by simp [sqV]
theorem sqV_at {l : List Sq} {k : Nat} {p : Sq} (h : l[k]? = some p) : (sqV l)[k]? = some (vsq p) := by simp [sqV, h]
/-- A row of squares of the call's own. -/
def SqRow (base : Nat) (w : World) (v : Value) (l : List Sq) : Prop := w.ownsRow base 34 2 v l.length (cellsIntA2 (sqV l))
theorem SqRow.below {base : Nat} {w w' : World} {v : Value} {l : List Sq} (h : SqRow base w v l) (hb : Below w.heap.size w w') : SqRow base w' v l := ownsRow_below h hb
theorem SqRow.nil (base : Nat) (w : World) : SqRow base w (.slice none 0 0) [] := ⟨by simp [sqV, cellsIntA2], .inl ⟨rfl, rfl⟩⟩
theorem SqRow.base {base base' : Nat} {w : World} {v : Value} {l : List Sq} (h : SqRow base w v l) (hb : base' ≤ base) : SqRow base' w v l := ownsRow_base h hb
theorem SqRow.own {base : Nat} {w : World} {v : Value} {l : List Sq} (h : SqRow base w v l) : w.ownsRow base 34 2 v (sqV l).length (cellsIntA2 (sqV l)) := by rw [sqV_len]; exact h
theorem SqRow.is {base : Nat} {w : World} {v : Value} {l : List Sq} (h : SqRow base w v l) : ∃ a cap, v = .slice a l.length cap ∧ IsIntA2S w a l.length cap (sqV l) := by
  obtain ⟨a, cap, e, hi, _⟩ := isIntA2S_own h.own
  rw [sqV_len] at e hi
  exact ⟨a, cap, e, hi⟩
theorem SqRow.ownS {base : Nat} {w : World} {v : Value} {l : List Sq} (h : SqRow base w v l) {lo hi : Nat} (h1 : lo ≤ base) (h2 : w.heap.size ≤ hi) : OwnIntA2S lo hi w v (sqV l) := OwnIn.of_row h.own h1 h2
def SqPost (l : List Sq) (w : World) (e : Ending) (w' : World) : Prop := ∃ v, e = .returned v ∧ SqRow w.heap.size w' v l ∧ Below w.heap.size w w'
set_option maxHeartbeats 6400000 in
set_option maxRecDepth 100000 in
theorem reliefSquares_any (a : Option Addr) (len cap : Nat) (D : List VIntS) (w : World) (h : IsIntSS w a len cap D) (hD : RL D) :
    Calls Try.prog 62 #[.slice a len cap] w (SqPost (sqs D) w) := by
  have hm := h.2.2.1
  have hcl := h.2.1
  unfold maxLen at hm
  obtain rfl := h.1
  obtain ⟨i0, hi, hz0, hz1, hz2⟩ := info_parts infoIntA2
  have S := Lib.hid h
  have HD := Lib.hid hD
  have hm8 := hD.m8
  have hn8 := hD.n8
  clear h hD
  go_enter Try.func62, Try.ntmps62
  go_wp2
  go_loopw [8, 3] (fun i o wr => ∃ k : Nat, k ≤ D.length ∧ i = .int .i64 k ∧ SqRow w.heap.size wr o (sqsTo (colsN D) k) ∧ Below w.heap.size w wr) (fun i _ _ => D.length - (intOf i).toNat)
  case atStart => exact ⟨0, Nat.zero_le _, rfl, SqRow.nil _ _, Below.refl _ _⟩
  case round =>
    obtain ⟨k, hk, rfl, hown, hbel⟩ := hrel
    have O := Lib.hid hown
    have B := Lib.hid hbel
    by_cases hlt : k < D.length
    · obtain ⟨b, o, b', o', c', rfl, hb, hb', g0, hc1, hc2, _⟩ := relief_row (S.out.below hbel) HD.out hlt
      have j0 : (0 : Int) ≤ (k : Int) := by omega
      have j1 : (k : Int) < (D.length : Int) := by omega
      clear hown hbel
      rename World => w0
      go_wp2
      go_loopw [16, 3] (fun j ov wr => ∃ c : Nat, c ≤ colsN D ∧ j = .int .i64 c ∧ SqRow w.heap.size wr ov (sqsTo (colsN D) k ++ sqRow c k) ∧ Below w.heap.size w wr) (fun j _ _ => colsN D - (intOf j).toNat)
      case atStart => exact ⟨0, Nat.zero_le _, rfl, by rw [show sqRow 0 k = [] from rfl, List.append_nil]; exact O.out, B.out⟩
      case round =>
        obtain ⟨c, hc, rfl, hown, hbel⟩ := hrel
        have OI := Lib.hid hown
        have BI := Lib.hid hbel
        by_cases hlc : c < colsN D
        · have RS := Lib.hid (show sqsTo (colsN D) k ++ sqRow (c + 1) k = (sqsTo (colsN D) k ++ sqRow c k) ++ [(k, c)] from by rw [sqRow_succ, List.append_assoc])
          have hle : (sqsTo (colsN D) k ++ sqRow c k).length ≤ 72 := by
            rw [List.length_append, sqsTo_len, sqRow_len]
            have := Nat.mul_le_mul (show k ≤ 8 by omega) hn8
            omega
          obtain ⟨G, hG⟩ : ∃ G, sqsTo (colsN D) k ++ sqRow c k = G := ⟨_, rfl⟩
          rw [hG] at hown RS hle
          have hs3 := hbel.size
          have hown3 := World.ownsRow.alloc hown (.cells #[.int .i64 (k : Int), .int .i64 (c : Int)] 34)
          have i1 : (c : Int) < (colsN D : Int) := by omega
          clear hown hbel hG
          go_wp2_with (at_builtin; refine wpList_append_own _ rfl _ _ 27 rfl w.heap.size 34 i0 (.agg #[.int .i64 0, .int .i64 0]) 2 16 Try.underlying27 hi hz0 hz1 hz2 rfl (by decide) _ _ _ rfl hown3 ⟨wr.heap.size, 0, none⟩ 1 1 (VIntA2.vals (vsq (k, c))) rfl rfl (cell_IntA2 _ (vsq (k, c)) _) (VIntA2.vals_one _) (by unfold maxLen; omega) (by omega) (by simp; omega) ?_; intro v' w4 hown' hgrow4 _)
          go_roundw
          case rel =>
            refine ⟨c + 1, by omega, by go_num, ?_, (Below.then' BI.out (bel_al1 _ _)).grown hgrow4 (by simp; omega) (fun q e => (hown3.lt q e).1)⟩
            rw [RS.out]
            unfold SqRow
            rw [sqV_snoc, cellsIntA2_snoc, List.length_append]
            exact hown'
          case measure => simp [intOf]; omega
        · obtain rfl : c = colsN D := by omega
          have O2 := Lib.hid (show SqRow w.heap.size wr _ (sqsTo (colsN D) (k + 1)) from by rw [sqsTo_succ]; exact OI.out)
          clear hown hbel
          go_wp2
          go_roundw
          case rel => exact ⟨k + 1, by omega, by go_num, O2.out, BI.out⟩
          case measure => simp [intOf]; omega
    · obtain rfl : k = D.length := by omega
      clear hown hbel
      go_wp2
      go_ret
      exact ⟨_, rfl, O.out, B.out⟩
end Go.Proofs.Ytodjgeffkfbpiaa
