/- Roads in the program: steps, roots, parts, lengths. -/
import Derived.Test.YtpnaciamnigbnaaRoi1
import Derived.Test.YtpnaciamnigbnaaroadPartT
import Derived.Test.YtpnaciamnigbnaaRoadLengthP
import Derived.Test.YtpnaciamnigbnaaShelf
import Derived.Test.YtpnaciamnigbnaaAppL2
import Derived.StillTailTactics
namespace Go.Proofs.Ytpnaciamnigbnaa
open Go.RowKit

set_option maxHeartbeats 1600000 in
theorem stepBetween_any (a b : VCorner) (w : World) (ha : okC a = true) (hb : okC b = true) :
    Calls Try.prog 148 #[.agg #[.int .i64 a.X, .int .i64 a.Y], .agg #[.int .i64 b.X, .int .i64 b.Y]] w fun e w' => e = .returned (.tuple #[.int .i64 (b.X - a.X), .int .i64 (b.Y - a.Y)]) ∧ Below w.heap.size w w' := by
  have h := okC_iff.1 ha
  have k := okC_iff.1 hb
  have w1 : IntKind.i64.wrap (b.X - a.X) = b.X - a.X := IntWalk.i64_in _ (by omega)
  have w2 : IntKind.i64.wrap (b.Y - a.Y) = b.Y - a.Y := IntWalk.i64_in _ (by omega)
  clear h k
  go_enter Try.func148, Try.ntmps148
  go_wp2
  go_quiet (fail)
  go_wp2
  go_ret2
  refine ⟨rfl, ?_⟩
  exact Below.then' (bel_al2 _ _ _) (bel_drawn _ _)
theorem src_part (w : World) (p : VroadPart) (t : TypeId) : SrcAt (w.alloc (.cells #[.int .i64 p.FX, .int .i64 p.FY, .int .i64 p.TX, .int .i64 p.TY] t)).drew (some ⟨w.heap.size, 0, none⟩) 1 4 p.vals :=
  ⟨rfl, .inr ⟨_, rfl, fun j u hj => cell_roadPart w p t j u hj⟩⟩
theorem corner_two {w : World} {b o : Nat} {xs : List VCorner} (hat : ∀ (k : Nat) s, xs[k]? = some s → CornerAt w b (o + k * 2) s) (hb : b < w.heap.size) {i j : Nat} {p q : VCorner} (hp : xs[i]? = some p) (hq : xs[j]? = some q) :
    ∀ W, Below w.heap.size w W → W.cell? ⟨b, o + i * 2, none⟩ = some (.int .i64 p.X) ∧ W.cell? ⟨b, o + i * 2 + 1, none⟩ = some (.int .i64 p.Y) ∧ W.cell? ⟨b, o + j * 2, none⟩ = some (.int .i64 q.X) ∧ W.cell? ⟨b, o + j * 2 + 1, none⟩ = some (.int .i64 q.Y) := by
  intro W hW
  obtain ⟨a0, a1⟩ := (hat i p hp).below hW hb
  obtain ⟨a2, a3⟩ := (hat j q hq).below hW hb
  exact ⟨a0, a1, a2, a3⟩
/-- A row of parts of the call's own. -/
def partOf (xs : List VCorner) (i : Nat) : VroadPart := ⟨(ptC xs i).X, (ptC xs i).Y, (ptC xs (i + 1)).X, (ptC xs (i + 1)).Y⟩
def partsTo (xs : List VCorner) (k : Nat) : List VroadPart := (List.range k).map (partOf xs)
def partsOf (xs : List VCorner) : List VroadPart := partsTo xs (xs.length - 1)
theorem partsTo_succ (xs : List VCorner) (k : Nat) : partsTo xs (k + 1) = partsTo xs k ++ [partOf xs k] := by
  unfold partsTo; rw [List.range_succ]; simp
theorem partsTo_len (xs : List VCorner) (k : Nat) : (partsTo xs k).length = k := by simp [partsTo]
theorem partsTo_at (xs : List VCorner) {i k : Nat} (h : i < k) : (partsTo xs k)[i]? = some (partOf xs i) := by simp [partsTo, h]
set_option maxHeartbeats 6400000 in
set_option maxRecDepth 100000 in
theorem roadParts_any (a : Option Addr) (len cap : Nat) (xs : List VCorner) (w : World) (h : IsCornerS w a len cap xs) (hr : Road xs) :
    Calls Try.prog 106 #[.slice a len cap] w (roadPartRow (partsOf xs) w) := by
  have hm := h.2.2.1
  have hcl := h.2.1
  unfold maxLen at hm
  obtain rfl := h.1
  obtain ⟨ri, hi, hz0, hz1, hz2⟩ := info_parts inforoadPart
  have S := Lib.hid h
  have l2 := hr.l2
  have l12 := hr.l12
  clear h hr
  go_enter Try.func106, Try.ntmps106
  go_wp2
  go_loopw [8, 3] (fun i o wr => ∃ k : Nat, k + 1 ≤ xs.length ∧ i = .int .i64 k ∧ wr.ownsRow w.heap.size 105 4 o (partsTo xs k).length (cellsroadPart (partsTo xs k)) ∧ Below w.heap.size w wr) (fun i _ _ => xs.length - (intOf i).toNat)
  case atStart => exact ⟨0, by omega, rfl, nil_ownroadPart _ _, Below.refl _ _⟩
  case round =>
    obtain ⟨k, hk, rfl, hown, hbel⟩ := hrel
    have O := Lib.hid hown
    have B := Lib.hid hbel
    by_cases hlt : k + 1 < xs.length
    · obtain ⟨b, o, rfl, hb, hat0⟩ := S.out.at (by omega)
      have hat : ∀ (k : Nat) s, xs[k]? = some s → CornerAt wr b (o + k * 2) s := fun k s hs => (hat0 k s hs).below hbel hb
      have hsz := hbel.size
      have KP := Lib.hid (corner_two hat0 hb (at_ptC (show k < xs.length by omega)) (at_ptC hlt))
      clear hat0
      have PL := Lib.hid (partsTo_len xs k)
      obtain ⟨c0, c1⟩ := hat k _ (at_ptC (by omega))
      obtain ⟨d0, d1⟩ := hat (k + 1) _ (at_ptC hlt)
      have PS := Lib.hid (partsTo_succ xs k)
      have hpo := (show partOf xs k = ⟨(ptC xs k).X, (ptC xs k).Y, (ptC xs (k + 1)).X, (ptC xs (k + 1)).Y⟩ from rfl)
      obtain ⟨p, hp⟩ : ∃ p, ptC xs k = p := ⟨_, rfl⟩
      obtain ⟨q, hq⟩ : ∃ q, ptC xs (k + 1) = q := ⟨_, rfl⟩
      rw [hp, hq] at hpo
      rw [hp, hq] at KP
      rw [hp] at c0 c1
      rw [hq] at d0 d1
      have PO := Lib.hid hpo
      have i0 : (0 : Int) ≤ (k : Int) := by omega
      have i1 : (k : Int) < (xs.length : Int) := by omega
      have i2 : (0 : Int) ≤ (k : Int) + 1 := by omega
      have i3 : (k : Int) + 1 < (xs.length : Int) := by omega
      have v1 : IntKind.i64.wrap ((k : Int) + 1) = (k : Int) + 1 := IntWalk.i64_in _ (by omega)
      have v2 : ((k : Int) + 1).toNat = k + 1 := by omega
      have BD := Lib.hid (drew_bel wr (.cells #[.int .i64 p.X, .int .i64 p.Y, .int .i64 q.X, .int .i64 q.Y] 105))
      have OD := Lib.hid (ownsRow_below O.out BD.out)
      have SN := Lib.hid (src_part wr ⟨p.X, p.Y, q.X, q.Y⟩ 105)
      have hlen : (partsTo xs k).length + 1 ≤ 20 := by have := PL.out; omega
      clear hat hp hq hpo hbel
      go_wp2
      go_region_held3 (fun w' => w'.cell? ⟨b, o + k * 2, none⟩ = some (.int .i64 p.X) ∧ w'.cell? ⟨b, o + k * 2 + 1, none⟩ = some (.int .i64 p.Y) ∧ w'.cell? ⟨b, o + (k + 1) * 2, none⟩ = some (.int .i64 q.X) ∧ w'.cell? ⟨b, o + (k + 1) * 2 + 1, none⟩ = some (.int .i64 q.Y)) (first | go_keep | exact KP.out _ B5.out) (first
        | (refine step_append_list (by rfl) (.tmp 11) (.tmp 22) 98 (by rfl) w.heap.size 105 ri (.agg #[.int .i64 0, .int .i64 0, .int .i64 0, .int .i64 0]) 4 32 Try.underlying98 hi hz0 hz1 hz2 (by rfl) (by decide) _ _ _ (by rfl) OD.out _ 1 1 (VroadPart.vals ⟨p.X, p.Y, q.X, q.Y⟩) (by rfl) SN.out (VroadPart.vals_one _) (by unfold maxLen; omega) (by omega) (Nat.le_trans hsz BD.out.size) ?_; intro v5 w5 hown5 hgrow5; have O5 := Lib.hid hown5; have B5 := Lib.hid (Below.grown (Below.then' B.out BD.out) hgrow5 (Nat.le_trans hsz BD.out.size) (fun p e => (OD.out.lt p e).1)); clear hown5 hgrow5))
      go_wp2
      go_roundw
      case rel =>
        refine ⟨k + 1, by omega, by go_num, ?_, B5.out⟩
        rw [PS.out, PO.out, List.length_append, cellsroadPart_snoc]
        exact O5.out
      case measure => simp [intOf]; omega
    · obtain rfl : k = xs.length - 1 := by omega
      clear hown hbel
      go_wp2
      go_ret
      exact ⟨_, rfl, O.out, B.out⟩
end Go.Proofs.Ytpnaciamnigbnaa
