/- Roads in the program: IsRoadLine, steps, roots. -/
import Derived.Test.YtpnaciamnigbnaaRo
import Derived.Test.YtpnaciamnigbnaaAro
import Derived.Test.YtpnaciamnigbnaaWh
import Derived.Test.YtpnaciamnigbnaaIsRoadLineP
import Derived.Deep.RegionHeld3
import Derived.BigQuiet
import Derived.Deep.QuietTactic
namespace Go.Proofs.Ytpnaciamnigbnaa
open Go.RowKit

theorem areTwoD (lo hi x y : Int) (t : TypeId) (w : World) (B : Nat) (hB : w.heap.size = B) :
    Calls Try.prog 84 #[.int .i64 lo, .int .i64 hi, .slice (some ⟨B, 0, none⟩) 2 2] (w.alloc (.cells #[.int .i64 x, .int .i64 y] t)).drew fun e w' => e = .returned (.bool (inB x lo hi && inB y lo hi)) ∧ (w.alloc (.cells #[.int .i64 x, .int .i64 y] t)).drew = w' :=
  (areInRange_any B 2 2 [x, y] lo hi (w.alloc (.cells #[.int .i64 x, .int .i64 y] t)).drew rfl (by omega) (lit2 w x y t B hB)).mono fun e w' h => ⟨by rw [h.1]; simp, h.2⟩
theorem ret_boolR {p q : Bool} (h : p = q) : Ending.returned (.bool p) = .returned (.bool q) := by rw [h]
theorem drew_bel (w : World) (o : Obj) : Below w.heap.size w (w.alloc o).drew := bel_drew' (bel_al1 w o)
set_option maxHeartbeats 6400000 in
set_option maxRecDepth 100000 in
theorem isRoad_any (a : Option Addr) (len cap : Nat) (xs : List VCorner) (w : World) (h : IsCornerS w a len cap xs) :
    Calls Try.prog 64 #[.slice a len cap] w fun e w' => e = .returned (.bool (roadB xs)) ∧ Below w.heap.size w w' := by
  have hm := h.2.2.1
  have hcl := h.2.1
  unfold maxLen at hm
  obtain rfl := h.1
  have S := Lib.hid h
  clear h
  obtain ⟨q1, e1⟩ : ∃ q, inB (xs.length : Int) 2 12 = q := ⟨_, rfl⟩
  have E1 := Lib.hid e1
  have B1 := Lib.hid (bel_al1 w (.cells #[.int .i64 (xs.length : Int)] 3))
  clear e1
  go_enter Try.func64, Try.ntmps64
  go_wp2_with fail
  refine (areOne 2 12 _ _ _ _ (by simp)).mono ?_
  rintro e w' ⟨rfl, rfl⟩
  rw [E1.out]
  cases q1
  · have F := Lib.hid (show roadB xs = false from by unfold roadB; rw [E1.out]; rfl)
    go_wp2
    go_ret
    exact ⟨ret_boolR F.out.symm, B1.out⟩
  have RB := Lib.hid (show roadB xs = goodTo xs xs.length from by unfold roadB; rw [E1.out]; rfl)
  go_wp2
  go_loopw [12, 3, 4] (fun i _ _ wr => ∃ k : Nat, k ≤ xs.length ∧ i = .int .i64 k ∧ goodTo xs k = true ∧ Below w.heap.size w wr) (fun i _ _ _ => xs.length - (intOf i).toNat)
  case atStart => exact ⟨0, Nat.zero_le _, rfl, rfl, B1.out⟩
  case round =>
    obtain ⟨k, hk, rfl, hall, hbel⟩ := hrel
    have H := Lib.hid hall
    have B := Lib.hid hbel
    clear hall
    by_cases hlt : k < xs.length
    · obtain ⟨s, hs⟩ : ∃ s, xs[k]? = some s := ⟨xs[k]'hlt, List.getElem?_eq_getElem _⟩
      obtain ⟨b, o, rfl, hb, hat⟩ := (S.out.below hbel).at (by omega)
      obtain ⟨c0, c1⟩ := hat k s hs
      have HS := Lib.hid (ptC_at hs)
      have i0 : (0 : Int) ≤ (k : Int) := by omega
      have i1 : (k : Int) < (xs.length : Int) := by omega
      have GS := Lib.hid (goodTo_succ xs k)
      have BX := BoxCorner.new wr 103 s _ rfl
      have BA := bel_al1 wr (.cells #[.int .i64 s.X, .int .i64 s.Y] 103)
      obtain ⟨q, hq⟩ : ∃ q, okC s = q := ⟨_, rfl⟩
      have Q := Lib.hid hq
      have Q2 := Lib.hid (show (inB s.X 0 9999 && inB s.Y 0 9999) = q from hq)
      clear hq
      by_cases h0 : k = 0
      · have GK := Lib.hid (show goodC xs k = q from by unfold goodC newC; rw [HS.out, Q.out, h0]; simp)
        have hk0 : ¬ 0 < k := by omega
        have hd0 : decide (0 < k) = false := by simpa using h0
        clear h0 hat hs
        go_wp2
        refine wp_world (fun W => BoxCorner W wr.heap.size s ∧ Below wr.heap.size wr W) ⟨BX, BA⟩ ?_
        rintro W ⟨⟨d0, d1⟩, hbw⟩
        have BW := Lib.hid hbw
        clear hbw BX BA c0 c1 hbel
        cases q
        · have F := Lib.hid (show roadB xs = false from by rw [RB.out]; exact goodTo_no hlt GK.out)
          refine wp_region_noPanic ?_
          refine wp_region_held_drew (S := (fun w' => w'.cell? ⟨wr.heap.size, 0, none⟩ = some (.int .i64 s.X) ∧ w'.cell? ⟨wr.heap.size, 1, none⟩ = some (.int .i64 s.Y))) (by kernel_rfl) (by (try dsimp only); go_keep) (fun hHeld => ?_)
          refine wpAnyH_take (i := 0) (oi := { dst := some 17, op := Op.fieldAddr 103 (Operand.tmp 4) 0, type := 0, pos := "l10_roads.go:34", after := #[], guard := none }) (v := ?_) rfl ?_ ?_ ?_ ?_ ?_ ?_ ?_
          rotate_left
          focus kernel_rfl
          focus kernel_rfl
          focus kernel_rfl
          focus exact fun _ _ _ h => h
          focus (refine Or.inl ⟨by rfl, ?_⟩; intro w hSw; (try dsimp only at hSw); go_simp <;> with_reducible rfl)
          focus assumption
          (try simp only [Act.put, List.setIfInBounds_toArray, List.set_cons_zero, List.set_cons_succ])
          refine wpAnyH_take (i := 1) (oi := { dst := some 18, op := Op.load 3 (Operand.tmp 17), type := 3, pos := "l10_roads.go:34", after := #[{ on := 0, ground := Ground.data }], guard := none }) (v := ?_) rfl ?_ ?_ ?_ ?_ ?_ ?_ ?_
          rotate_left
          focus kernel_rfl
          focus kernel_rfl
          focus kernel_rfl
          focus exact fun _ _ _ h => h
          focus (refine Or.inl ⟨by rfl, ?_⟩; intro w hSw; (try dsimp only at hSw); go_simp <;> with_reducible rfl)
          focus assumption
          (try simp only [Act.put, List.setIfInBounds_toArray, List.set_cons_zero, List.set_cons_succ])
          refine wpAnyH_take (i := 2) (oi := { dst := some 19, op := Op.fieldAddr 103 (Operand.tmp 4) 1, type := 0, pos := "l10_roads.go:34", after := #[], guard := none }) (v := ?_) rfl ?_ ?_ ?_ ?_ ?_ ?_ ?_
          rotate_left
          focus kernel_rfl
          focus kernel_rfl
          focus kernel_rfl
          focus exact fun _ _ _ h => h
          focus (refine Or.inl ⟨by rfl, ?_⟩; intro w hSw; (try dsimp only at hSw); go_simp <;> with_reducible rfl)
          focus assumption
          (try simp only [Act.put, List.setIfInBounds_toArray, List.set_cons_zero, List.set_cons_succ])
          refine wpAnyH_take (i := 3) (oi := { dst := some 20, op := Op.load 3 (Operand.tmp 19), type := 3, pos := "l10_roads.go:34", after := #[{ on := 2, ground := Ground.data }], guard := none }) (v := ?_) rfl ?_ ?_ ?_ ?_ ?_ ?_ ?_
          rotate_left
          focus kernel_rfl
          focus kernel_rfl
          focus kernel_rfl
          focus exact fun _ _ _ h => h
          focus (refine Or.inl ⟨by rfl, ?_⟩; intro w hSw; (try dsimp only at hSw); go_simp <;> with_reducible rfl)
          focus assumption
          (try simp only [Act.put, List.setIfInBounds_toArray, List.set_cons_zero, List.set_cons_succ])
          refine wpAnyH_ready (rs := [4]) (by kernel_rfl) (by simp) ?_
          refine AllReadyH.cons (o := { dst := some 21, op := Op.buildSlice 38 2 #[(0, Operand.tmp 18), (1, Operand.tmp 20)], type := 38, pos := "l10_roads.go:34", after := #[{ on := 1, ground := Ground.data }, { on := 3, ground := Ground.data }], guard := none }) rfl (fun K hK => ?_) AllReadyH.nil
          go_simp
          refine hK.out _ _ (by (try dsimp only); go_keep) (fun hHeld => ?_)
          clear hK K
          (try simp only [Act.put, List.setIfInBounds_toArray, List.set_cons_zero, List.set_cons_succ])
          refine wpAnyH_ready (rs := [5]) (by kernel_rfl) (by simp) ?_
          refine AllReadyH.cons (o := { dst := some 22, op := Op.call { callee := Callee.value (Operand.func 84), args := #[Operand.const (Value.int IntKind.i64 0), Operand.const (Value.int IntKind.i64 9999), Operand.tmp 21], argTypes := #[3, 3, 38] }, type := 4, pos := "l10_roads.go:34", after := #[{ on := 4, ground := Ground.data }], guard := none }) rfl (fun K hK => ?_) AllReadyH.nil
          go_simp
          (go_at_call 84; refine (areTwoD 0 9999 s.X s.Y _ _ _ rfl).mono ?_; rintro e w' ⟨rfl, rfl⟩; rw [Q2.out]; go_wp2_with fail)
          refine hK.out _ _ (by (try dsimp only); go_keep) (fun hHeld => ?_)
          clear hK K
          (try simp only [Act.put, List.setIfInBounds_toArray, List.set_cons_zero, List.set_cons_succ])
          refine wpAnyH_take (i := 6) (oi := { dst := some 23, op := Op.unOp UnOp.not 4 (Operand.tmp 22), type := 4, pos := "l10_roads.go:34", after := #[{ on := 5, ground := Ground.data }], guard := none }) (v := ?_) rfl ?_ ?_ ?_ ?_ ?_ ?_ ?_
          rotate_left
          focus kernel_rfl
          focus kernel_rfl
          focus kernel_rfl
          focus exact fun _ _ _ h => h
          focus (refine Or.inl ⟨by rfl, ?_⟩; intro w hSw; (try dsimp only at hSw); go_simp <;> with_reducible rfl)
          focus assumption
          (try simp only [Act.put, List.setIfInBounds_toArray, List.set_cons_zero, List.set_cons_succ])
          refine wpAnyH_take (i := 7) (oi := { dst := some 24, op := Op.move (Operand.tmp 23), type := 4, pos := "l10_roads.go:34", after := #[{ on := 6, ground := Ground.data }, { on := 5, ground := Ground.chain }], guard := none }) (v := ?_) rfl ?_ ?_ ?_ ?_ ?_ ?_ ?_
          rotate_left
          focus kernel_rfl
          focus kernel_rfl
          focus kernel_rfl
          focus exact fun _ _ _ h => h
          focus (refine Or.inl ⟨by rfl, ?_⟩; intro w hSw; (try dsimp only at hSw); go_simp <;> with_reducible rfl)
          focus assumption
          (try simp only [Act.put, List.setIfInBounds_toArray, List.set_cons_zero, List.set_cons_succ])
          refine wpAnyH_take (i := 8) (oi := { dst := some 25, op := Op.move (Operand.tmp 3), type := 3, pos := "l10_roads.go:34", after := #[{ on := 7, ground := Ground.guard }], guard := some (7, false) }) (v := undef) rfl ?_ ?_ ?_ ?_ ?_ ?_ ?_
          focus kernel_rfl
          focus kernel_rfl
          focus kernel_rfl
          focus exact fun _ _ _ h => h
          focus exact Or.inr ⟨by rfl, rfl⟩
          focus assumption
          (try simp only [Act.put, List.setIfInBounds_toArray, List.set_cons_zero, List.set_cons_succ])
          refine wpAnyH_take (i := 9) (oi := { dst := some 26, op := Op.binOp BinOp.gtr 3 (Operand.tmp 25) (Operand.const (Value.int IntKind.i64 0)) 3, type := 4, pos := "l10_roads.go:34", after := #[{ on := 8, ground := Ground.data }, { on := 7, ground := Ground.guard }], guard := some (7, false) }) (v := undef) rfl ?_ ?_ ?_ ?_ ?_ ?_ ?_
          focus kernel_rfl
          focus kernel_rfl
          focus kernel_rfl
          focus exact fun _ _ _ h => h
          focus exact Or.inr ⟨by rfl, rfl⟩
          focus assumption
          (try simp only [Act.put, List.setIfInBounds_toArray, List.set_cons_zero, List.set_cons_succ])
          refine wpAnyH_take (i := 10) (oi := { dst := some 27, op := Op.move (Operand.tmp 26), type := 4, pos := "l10_roads.go:34", after := #[{ on := 9, ground := Ground.data }, { on := 7, ground := Ground.chain }, { on := 7, ground := Ground.guard }], guard := some (7, false) }) (v := undef) rfl ?_ ?_ ?_ ?_ ?_ ?_ ?_
          focus kernel_rfl
          focus kernel_rfl
          focus kernel_rfl
          focus exact fun _ _ _ h => h
          focus exact Or.inr ⟨by rfl, rfl⟩
          focus assumption
          (try simp only [Act.put, List.setIfInBounds_toArray, List.set_cons_zero, List.set_cons_succ])
          refine wpAnyH_take (i := 11) (oi := { dst := some 28, op := Op.load 103 (Operand.tmp 4), type := 103, pos := "l10_roads.go:34", after := #[{ on := 10, ground := Ground.guard }], guard := some (10, true) }) (v := undef) rfl ?_ ?_ ?_ ?_ ?_ ?_ ?_
          focus kernel_rfl
          focus kernel_rfl
          focus kernel_rfl
          focus exact fun _ _ _ h => h
          focus exact Or.inr ⟨by rfl, rfl⟩
          focus assumption
          (try simp only [Act.put, List.setIfInBounds_toArray, List.set_cons_zero, List.set_cons_succ])
          refine wpAnyH_take (i := 12) (oi := { dst := some 29, op := Op.move (Operand.tmp 0), type := 47, pos := "l10_roads.go:34", after := #[{ on := 10, ground := Ground.guard }], guard := some (10, true) }) (v := undef) rfl ?_ ?_ ?_ ?_ ?_ ?_ ?_
          focus kernel_rfl
          focus kernel_rfl
          focus kernel_rfl
          focus exact fun _ _ _ h => h
          focus exact Or.inr ⟨by rfl, rfl⟩
          focus assumption
          (try simp only [Act.put, List.setIfInBounds_toArray, List.set_cons_zero, List.set_cons_succ])
          refine wpAnyH_take (i := 13) (oi := { dst := some 30, op := Op.move (Operand.tmp 3), type := 3, pos := "l10_roads.go:34", after := #[{ on := 10, ground := Ground.guard }], guard := some (10, true) }) (v := undef) rfl ?_ ?_ ?_ ?_ ?_ ?_ ?_
          focus kernel_rfl
          focus kernel_rfl
          focus kernel_rfl
          focus exact fun _ _ _ h => h
          focus exact Or.inr ⟨by rfl, rfl⟩
          focus assumption
          (try simp only [Act.put, List.setIfInBounds_toArray, List.set_cons_zero, List.set_cons_succ])
          refine wpAnyH_take (i := 14) (oi := { dst := some 31, op := Op.binOp BinOp.sub 3 (Operand.tmp 30) (Operand.const (Value.int IntKind.i64 1)) 3, type := 3, pos := "l10_roads.go:34", after := #[{ on := 13, ground := Ground.data }, { on := 10, ground := Ground.guard }], guard := some (10, true) }) (v := undef) rfl ?_ ?_ ?_ ?_ ?_ ?_ ?_
          focus kernel_rfl
          focus kernel_rfl
          focus kernel_rfl
          focus exact fun _ _ _ h => h
          focus exact Or.inr ⟨by rfl, rfl⟩
          focus assumption
          (try simp only [Act.put, List.setIfInBounds_toArray, List.set_cons_zero, List.set_cons_succ])
          refine wpAnyH_take (i := 15) (oi := { dst := some 32, op := Op.indexAddr 47 (Operand.tmp 29) (Operand.tmp 31), type := 0, pos := "l10_roads.go:34", after := #[{ on := 12, ground := Ground.data }, { on := 14, ground := Ground.data }, { on := 10, ground := Ground.guard }], guard := some (10, true) }) (v := undef) rfl ?_ ?_ ?_ ?_ ?_ ?_ ?_
          focus kernel_rfl
          focus kernel_rfl
          focus kernel_rfl
          focus exact fun _ _ _ h => h
          focus exact Or.inr ⟨by rfl, rfl⟩
          focus assumption
          (try simp only [Act.put, List.setIfInBounds_toArray, List.set_cons_zero, List.set_cons_succ])
          refine wpAnyH_take (i := 16) (oi := { dst := some 33, op := Op.load 103 (Operand.tmp 32), type := 103, pos := "l10_roads.go:34", after := #[{ on := 15, ground := Ground.data }, { on := 10, ground := Ground.guard }], guard := some (10, true) }) (v := undef) rfl ?_ ?_ ?_ ?_ ?_ ?_ ?_
          focus kernel_rfl
          focus kernel_rfl
          focus kernel_rfl
          focus exact fun _ _ _ h => h
          focus exact Or.inr ⟨by rfl, rfl⟩
          focus assumption
          (try simp only [Act.put, List.setIfInBounds_toArray, List.set_cons_zero, List.set_cons_succ])
          refine wpAnyH_take (i := 17) (oi := { dst := some 34, op := Op.binOp BinOp.eql 103 (Operand.tmp 28) (Operand.tmp 33) 103, type := 4, pos := "l10_roads.go:34", after := #[{ on := 11, ground := Ground.data }, { on := 16, ground := Ground.data }, { on := 10, ground := Ground.guard }], guard := some (10, true) }) (v := undef) rfl ?_ ?_ ?_ ?_ ?_ ?_ ?_
          focus kernel_rfl
          focus kernel_rfl
          focus kernel_rfl
          focus exact fun _ _ _ h => h
          focus exact Or.inr ⟨by rfl, rfl⟩
          focus assumption
          (try simp only [Act.put, List.setIfInBounds_toArray, List.set_cons_zero, List.set_cons_succ])
          refine wpAnyH_take (i := 18) (oi := { dst := some 35, op := Op.pick (Operand.tmp 27) (Operand.tmp 34) (Operand.const (Value.bool false)), type := 4, pos := "l10_roads.go:34", after := #[{ on := 10, ground := Ground.data }, { on := 17, ground := Ground.data }, { on := 7, ground := Ground.guard }], guard := some (7, false) }) (v := undef) rfl ?_ ?_ ?_ ?_ ?_ ?_ ?_
          focus kernel_rfl
          focus kernel_rfl
          focus kernel_rfl
          focus exact fun _ _ _ h => h
          focus exact Or.inr ⟨by rfl, rfl⟩
          focus assumption
          (try simp only [Act.put, List.setIfInBounds_toArray, List.set_cons_zero, List.set_cons_succ])
          refine wpAnyH_take (i := 19) (oi := { dst := some 36, op := Op.pick (Operand.tmp 24) (Operand.const (Value.bool true)) (Operand.tmp 35), type := 4, pos := "l10_roads.go:34", after := #[{ on := 7, ground := Ground.data }, { on := 18, ground := Ground.data }], guard := none }) (v := ?_) rfl ?_ ?_ ?_ ?_ ?_ ?_ ?_
          rotate_left
          focus kernel_rfl
          focus kernel_rfl
          focus kernel_rfl
          focus exact fun _ _ _ h => h
          focus (refine Or.inl ⟨by rfl, ?_⟩; intro w hSw; (try dsimp only at hSw); go_simp <;> with_reducible rfl)
          focus assumption
          (try simp only [Act.put, List.setIfInBounds_toArray, List.set_cons_zero, List.set_cons_succ])
          refine wpAnyH_done (by kernel_rfl) ?_ _
          refine NoPanic.normal ?_
          go_wp2
          go_ret
          exact ⟨ret_boolR F.out.symm, Below.then' B.out (Below.then' BW.out (drew_bel _ _))⟩
        · skip
          refine wp_region_noPanic ?_
          refine wp_region_held_drew (S := (fun w' => w'.cell? ⟨wr.heap.size, 0, none⟩ = some (.int .i64 s.X) ∧ w'.cell? ⟨wr.heap.size, 1, none⟩ = some (.int .i64 s.Y))) (by kernel_rfl) (by (try dsimp only); go_keep) (fun hHeld => ?_)
          refine wpAnyH_take (i := 0) (oi := { dst := some 17, op := Op.fieldAddr 103 (Operand.tmp 4) 0, type := 0, pos := "l10_roads.go:34", after := #[], guard := none }) (v := ?_) rfl ?_ ?_ ?_ ?_ ?_ ?_ ?_
          rotate_left
          focus kernel_rfl
          focus kernel_rfl
          focus kernel_rfl
          focus exact fun _ _ _ h => h
          focus (refine Or.inl ⟨by rfl, ?_⟩; intro w hSw; (try dsimp only at hSw); go_simp <;> with_reducible rfl)
          focus assumption
          (try simp only [Act.put, List.setIfInBounds_toArray, List.set_cons_zero, List.set_cons_succ])
          refine wpAnyH_take (i := 1) (oi := { dst := some 18, op := Op.load 3 (Operand.tmp 17), type := 3, pos := "l10_roads.go:34", after := #[{ on := 0, ground := Ground.data }], guard := none }) (v := ?_) rfl ?_ ?_ ?_ ?_ ?_ ?_ ?_
          rotate_left
          focus kernel_rfl
          focus kernel_rfl
          focus kernel_rfl
          focus exact fun _ _ _ h => h
          focus (refine Or.inl ⟨by rfl, ?_⟩; intro w hSw; (try dsimp only at hSw); go_simp <;> with_reducible rfl)
          focus assumption
          (try simp only [Act.put, List.setIfInBounds_toArray, List.set_cons_zero, List.set_cons_succ])
          refine wpAnyH_take (i := 2) (oi := { dst := some 19, op := Op.fieldAddr 103 (Operand.tmp 4) 1, type := 0, pos := "l10_roads.go:34", after := #[], guard := none }) (v := ?_) rfl ?_ ?_ ?_ ?_ ?_ ?_ ?_
          rotate_left
          focus kernel_rfl
          focus kernel_rfl
          focus kernel_rfl
          focus exact fun _ _ _ h => h
          focus (refine Or.inl ⟨by rfl, ?_⟩; intro w hSw; (try dsimp only at hSw); go_simp <;> with_reducible rfl)
          focus assumption
          (try simp only [Act.put, List.setIfInBounds_toArray, List.set_cons_zero, List.set_cons_succ])
          refine wpAnyH_take (i := 3) (oi := { dst := some 20, op := Op.load 3 (Operand.tmp 19), type := 3, pos := "l10_roads.go:34", after := #[{ on := 2, ground := Ground.data }], guard := none }) (v := ?_) rfl ?_ ?_ ?_ ?_ ?_ ?_ ?_
          rotate_left
          focus kernel_rfl
          focus kernel_rfl
          focus kernel_rfl
          focus exact fun _ _ _ h => h
          focus (refine Or.inl ⟨by rfl, ?_⟩; intro w hSw; (try dsimp only at hSw); go_simp <;> with_reducible rfl)
          focus assumption
          (try simp only [Act.put, List.setIfInBounds_toArray, List.set_cons_zero, List.set_cons_succ])
          refine wpAnyH_ready (rs := [4]) (by kernel_rfl) (by simp) ?_
          refine AllReadyH.cons (o := { dst := some 21, op := Op.buildSlice 38 2 #[(0, Operand.tmp 18), (1, Operand.tmp 20)], type := 38, pos := "l10_roads.go:34", after := #[{ on := 1, ground := Ground.data }, { on := 3, ground := Ground.data }], guard := none }) rfl (fun K hK => ?_) AllReadyH.nil
          go_simp
          refine hK.out _ _ (by (try dsimp only); go_keep) (fun hHeld => ?_)
          clear hK K
          (try simp only [Act.put, List.setIfInBounds_toArray, List.set_cons_zero, List.set_cons_succ])
          refine wpAnyH_ready (rs := [5]) (by kernel_rfl) (by simp) ?_
          refine AllReadyH.cons (o := { dst := some 22, op := Op.call { callee := Callee.value (Operand.func 84), args := #[Operand.const (Value.int IntKind.i64 0), Operand.const (Value.int IntKind.i64 9999), Operand.tmp 21], argTypes := #[3, 3, 38] }, type := 4, pos := "l10_roads.go:34", after := #[{ on := 4, ground := Ground.data }], guard := none }) rfl (fun K hK => ?_) AllReadyH.nil
          go_simp
          (go_at_call 84; refine (areTwoD 0 9999 s.X s.Y _ _ _ rfl).mono ?_; rintro e w' ⟨rfl, rfl⟩; rw [Q2.out]; go_wp2_with fail)
          refine hK.out _ _ (by (try dsimp only); go_keep) (fun hHeld => ?_)
          clear hK K
          (try simp only [Act.put, List.setIfInBounds_toArray, List.set_cons_zero, List.set_cons_succ])
          refine wpAnyH_take (i := 6) (oi := { dst := some 23, op := Op.unOp UnOp.not 4 (Operand.tmp 22), type := 4, pos := "l10_roads.go:34", after := #[{ on := 5, ground := Ground.data }], guard := none }) (v := ?_) rfl ?_ ?_ ?_ ?_ ?_ ?_ ?_
          rotate_left
          focus kernel_rfl
          focus kernel_rfl
          focus kernel_rfl
          focus exact fun _ _ _ h => h
          focus (refine Or.inl ⟨by rfl, ?_⟩; intro w hSw; (try dsimp only at hSw); go_simp <;> with_reducible rfl)
          focus assumption
          (try simp only [Act.put, List.setIfInBounds_toArray, List.set_cons_zero, List.set_cons_succ])
          refine wpAnyH_take (i := 7) (oi := { dst := some 24, op := Op.move (Operand.tmp 23), type := 4, pos := "l10_roads.go:34", after := #[{ on := 6, ground := Ground.data }, { on := 5, ground := Ground.chain }], guard := none }) (v := ?_) rfl ?_ ?_ ?_ ?_ ?_ ?_ ?_
          rotate_left
          focus kernel_rfl
          focus kernel_rfl
          focus kernel_rfl
          focus exact fun _ _ _ h => h
          focus (refine Or.inl ⟨by rfl, ?_⟩; intro w hSw; (try dsimp only at hSw); go_simp <;> with_reducible rfl)
          focus assumption
          (try simp only [Act.put, List.setIfInBounds_toArray, List.set_cons_zero, List.set_cons_succ])
          refine wpAnyH_take (i := 8) (oi := { dst := some 25, op := Op.move (Operand.tmp 3), type := 3, pos := "l10_roads.go:34", after := #[{ on := 7, ground := Ground.guard }], guard := some (7, false) }) (v := ?_) rfl ?_ ?_ ?_ ?_ ?_ ?_ ?_
          rotate_left
          focus kernel_rfl
          focus kernel_rfl
          focus kernel_rfl
          focus exact fun _ _ _ h => h
          focus (refine Or.inl ⟨by rfl, ?_⟩; intro w hSw; (try dsimp only at hSw); go_simp <;> with_reducible rfl)
          focus assumption
          (try simp only [Act.put, List.setIfInBounds_toArray, List.set_cons_zero, List.set_cons_succ])
          refine wpAnyH_take (i := 9) (oi := { dst := some 26, op := Op.binOp BinOp.gtr 3 (Operand.tmp 25) (Operand.const (Value.int IntKind.i64 0)) 3, type := 4, pos := "l10_roads.go:34", after := #[{ on := 8, ground := Ground.data }, { on := 7, ground := Ground.guard }], guard := some (7, false) }) (v := ?_) rfl ?_ ?_ ?_ ?_ ?_ ?_ ?_
          rotate_left
          focus kernel_rfl
          focus kernel_rfl
          focus kernel_rfl
          focus exact fun _ _ _ h => h
          focus (refine Or.inl ⟨by rfl, ?_⟩; intro w hSw; (try dsimp only at hSw); go_simp <;> with_reducible rfl)
          focus assumption
          (try simp only [Act.put, List.setIfInBounds_toArray, List.set_cons_zero, List.set_cons_succ])
          refine wpAnyH_take (i := 10) (oi := { dst := some 27, op := Op.move (Operand.tmp 26), type := 4, pos := "l10_roads.go:34", after := #[{ on := 9, ground := Ground.data }, { on := 7, ground := Ground.chain }, { on := 7, ground := Ground.guard }], guard := some (7, false) }) (v := ?_) rfl ?_ ?_ ?_ ?_ ?_ ?_ ?_
          rotate_left
          focus kernel_rfl
          focus kernel_rfl
          focus kernel_rfl
          focus exact fun _ _ _ h => h
          focus (refine Or.inl ⟨by rfl, ?_⟩; intro w hSw; (try dsimp only at hSw); go_simp <;> with_reducible rfl)
          focus assumption
          (try simp only [Act.put, List.setIfInBounds_toArray, List.set_cons_zero, List.set_cons_succ])
          refine wpAnyH_take (i := 11) (oi := { dst := some 28, op := Op.load 103 (Operand.tmp 4), type := 103, pos := "l10_roads.go:34", after := #[{ on := 10, ground := Ground.guard }], guard := some (10, true) }) (v := undef) rfl ?_ ?_ ?_ ?_ ?_ ?_ ?_
          focus kernel_rfl
          focus kernel_rfl
          focus kernel_rfl
          focus exact fun _ _ _ h => h
          focus exact Or.inr ⟨by rfl, rfl⟩
          focus assumption
          (try simp only [Act.put, List.setIfInBounds_toArray, List.set_cons_zero, List.set_cons_succ])
          refine wpAnyH_take (i := 12) (oi := { dst := some 29, op := Op.move (Operand.tmp 0), type := 47, pos := "l10_roads.go:34", after := #[{ on := 10, ground := Ground.guard }], guard := some (10, true) }) (v := undef) rfl ?_ ?_ ?_ ?_ ?_ ?_ ?_
          focus kernel_rfl
          focus kernel_rfl
          focus kernel_rfl
          focus exact fun _ _ _ h => h
          focus exact Or.inr ⟨by rfl, rfl⟩
          focus assumption
          (try simp only [Act.put, List.setIfInBounds_toArray, List.set_cons_zero, List.set_cons_succ])
          refine wpAnyH_take (i := 13) (oi := { dst := some 30, op := Op.move (Operand.tmp 3), type := 3, pos := "l10_roads.go:34", after := #[{ on := 10, ground := Ground.guard }], guard := some (10, true) }) (v := undef) rfl ?_ ?_ ?_ ?_ ?_ ?_ ?_
          focus kernel_rfl
          focus kernel_rfl
          focus kernel_rfl
          focus exact fun _ _ _ h => h
          focus exact Or.inr ⟨by rfl, rfl⟩
          focus assumption
          (try simp only [Act.put, List.setIfInBounds_toArray, List.set_cons_zero, List.set_cons_succ])
          refine wpAnyH_take (i := 14) (oi := { dst := some 31, op := Op.binOp BinOp.sub 3 (Operand.tmp 30) (Operand.const (Value.int IntKind.i64 1)) 3, type := 3, pos := "l10_roads.go:34", after := #[{ on := 13, ground := Ground.data }, { on := 10, ground := Ground.guard }], guard := some (10, true) }) (v := undef) rfl ?_ ?_ ?_ ?_ ?_ ?_ ?_
          focus kernel_rfl
          focus kernel_rfl
          focus kernel_rfl
          focus exact fun _ _ _ h => h
          focus exact Or.inr ⟨by rfl, rfl⟩
          focus assumption
          (try simp only [Act.put, List.setIfInBounds_toArray, List.set_cons_zero, List.set_cons_succ])
          refine wpAnyH_take (i := 15) (oi := { dst := some 32, op := Op.indexAddr 47 (Operand.tmp 29) (Operand.tmp 31), type := 0, pos := "l10_roads.go:34", after := #[{ on := 12, ground := Ground.data }, { on := 14, ground := Ground.data }, { on := 10, ground := Ground.guard }], guard := some (10, true) }) (v := undef) rfl ?_ ?_ ?_ ?_ ?_ ?_ ?_
          focus kernel_rfl
          focus kernel_rfl
          focus kernel_rfl
          focus exact fun _ _ _ h => h
          focus exact Or.inr ⟨by rfl, rfl⟩
          focus assumption
          (try simp only [Act.put, List.setIfInBounds_toArray, List.set_cons_zero, List.set_cons_succ])
          refine wpAnyH_take (i := 16) (oi := { dst := some 33, op := Op.load 103 (Operand.tmp 32), type := 103, pos := "l10_roads.go:34", after := #[{ on := 15, ground := Ground.data }, { on := 10, ground := Ground.guard }], guard := some (10, true) }) (v := undef) rfl ?_ ?_ ?_ ?_ ?_ ?_ ?_
          focus kernel_rfl
          focus kernel_rfl
          focus kernel_rfl
          focus exact fun _ _ _ h => h
          focus exact Or.inr ⟨by rfl, rfl⟩
          focus assumption
          (try simp only [Act.put, List.setIfInBounds_toArray, List.set_cons_zero, List.set_cons_succ])
          refine wpAnyH_take (i := 17) (oi := { dst := some 34, op := Op.binOp BinOp.eql 103 (Operand.tmp 28) (Operand.tmp 33) 103, type := 4, pos := "l10_roads.go:34", after := #[{ on := 11, ground := Ground.data }, { on := 16, ground := Ground.data }, { on := 10, ground := Ground.guard }], guard := some (10, true) }) (v := undef) rfl ?_ ?_ ?_ ?_ ?_ ?_ ?_
          focus kernel_rfl
          focus kernel_rfl
          focus kernel_rfl
          focus exact fun _ _ _ h => h
          focus exact Or.inr ⟨by rfl, rfl⟩
          focus assumption
          (try simp only [Act.put, List.setIfInBounds_toArray, List.set_cons_zero, List.set_cons_succ])
          refine wpAnyH_take (i := 18) (oi := { dst := some 35, op := Op.pick (Operand.tmp 27) (Operand.tmp 34) (Operand.const (Value.bool false)), type := 4, pos := "l10_roads.go:34", after := #[{ on := 10, ground := Ground.data }, { on := 17, ground := Ground.data }, { on := 7, ground := Ground.guard }], guard := some (7, false) }) (v := ?_) rfl ?_ ?_ ?_ ?_ ?_ ?_ ?_
          rotate_left
          focus kernel_rfl
          focus kernel_rfl
          focus kernel_rfl
          focus exact fun _ _ _ h => h
          focus (refine Or.inl ⟨by rfl, ?_⟩; intro w hSw; (try dsimp only at hSw); go_simp <;> with_reducible rfl)
          focus assumption
          (try simp only [Act.put, List.setIfInBounds_toArray, List.set_cons_zero, List.set_cons_succ])
          refine wpAnyH_take (i := 19) (oi := { dst := some 36, op := Op.pick (Operand.tmp 24) (Operand.const (Value.bool true)) (Operand.tmp 35), type := 4, pos := "l10_roads.go:34", after := #[{ on := 7, ground := Ground.data }, { on := 18, ground := Ground.data }], guard := none }) (v := ?_) rfl ?_ ?_ ?_ ?_ ?_ ?_ ?_
          rotate_left
          focus kernel_rfl
          focus kernel_rfl
          focus kernel_rfl
          focus exact fun _ _ _ h => h
          focus (refine Or.inl ⟨by rfl, ?_⟩; intro w hSw; (try dsimp only at hSw); go_simp <;> with_reducible rfl)
          focus assumption
          (try simp only [Act.put, List.setIfInBounds_toArray, List.set_cons_zero, List.set_cons_succ])
          refine wpAnyH_done (by kernel_rfl) ?_ _
          refine NoPanic.normal ?_
          go_wp2
          go_roundw
          case rel => exact ⟨k + 1, by omega, by go_num, by rw [GS.out, H.out, GK.out]; rfl, Below.then' B.out (Below.then' BW.out (drew_bel _ _))⟩
          case measure => simp [intOf]; omega
      · obtain ⟨j, rfl⟩ : ∃ j, k = j + 1 := ⟨k - 1, by omega⟩
        obtain ⟨p, hp⟩ : ∃ p, xs[j]? = some p := ⟨xs[j]'(by omega), List.getElem?_eq_getElem _⟩
        obtain ⟨p0, p1⟩ := hat j p hp
        obtain ⟨r, hr⟩ : ∃ r, eqvCorner s p = r := ⟨_, rfl⟩
        have heq : ∀ W : World, (binOp .eql 103 (.agg #[.int .i64 s.X, .int .i64 s.Y]) (.agg #[.int .i64 p.X, .int .i64 p.Y])).run Try.prog W = .ok (.bool r) W := fun W => by rw [← hr]; exact eqlCorner W s p
        have GK := Lib.hid (show goodC xs (j + 1) = (q && !r) from by unfold goodC newC; rw [HS.out, Q.out, show j + 1 - 1 = j from rfl, ptC_at hp, hr]; simp)
        have hd0 : decide (0 < j + 1) = true := by simp
        have v1 : IntKind.i64.wrap ((((j + 1 : Nat)) : Int) - 1) = (j : Int) := by rw [IntWalk.i64_in _ (by omega)]; omega
        have v2 : (((j + 1 : Nat)) : Int) - 1 = (j : Int) := by omega
        have v3 : IntKind.i64.wrap (j : Int) = (j : Int) := IntWalk.i64_in _ (by omega)
        have j0 : (0 : Int) ≤ (j : Int) := by omega
        have j1 : (j : Int) < (xs.length : Int) := by omega
        have hpw := Below.cell BA (p := ⟨b, o + j * 2, none⟩) hb
        have hpw1 := Below.cell BA (p := ⟨b, o + j * 2 + 1, none⟩) hb
        have P0 := hpw.trans p0
        have P1 := hpw1.trans p1
        clear h0 hat hs hp hr hpw hpw1
        go_wp2
        refine wp_world (fun W => BoxCorner W wr.heap.size s ∧ W.cell? ⟨b, o + j * 2, none⟩ = some (.int .i64 p.X) ∧ W.cell? ⟨b, o + j * 2 + 1, none⟩ = some (.int .i64 p.Y) ∧ Below wr.heap.size wr W) ⟨BX, P0, P1, BA⟩ ?_
        rintro W ⟨⟨d0, d1⟩, d2, d3, hbw⟩
        have BW := Lib.hid hbw
        clear hbw BX BA c0 c1 p0 p1 P0 P1 hbel
        cases q
        · have F := Lib.hid (show roadB xs = false from by rw [RB.out]; exact goodTo_no hlt GK.out)
          refine wp_region_noPanic ?_
          refine wp_region_held_drew (S := (fun w' => w'.cell? ⟨wr.heap.size, 0, none⟩ = some (.int .i64 s.X) ∧ w'.cell? ⟨wr.heap.size, 1, none⟩ = some (.int .i64 s.Y) ∧ w'.cell? ⟨b, o + j * 2, none⟩ = some (.int .i64 p.X) ∧ w'.cell? ⟨b, o + j * 2 + 1, none⟩ = some (.int .i64 p.Y))) (by kernel_rfl) (by (try dsimp only); go_keep) (fun hHeld => ?_)
          refine wpAnyH_take (i := 0) (oi := { dst := some 17, op := Op.fieldAddr 103 (Operand.tmp 4) 0, type := 0, pos := "l10_roads.go:34", after := #[], guard := none }) (v := ?_) rfl ?_ ?_ ?_ ?_ ?_ ?_ ?_
          rotate_left
          focus kernel_rfl
          focus kernel_rfl
          focus kernel_rfl
          focus exact fun _ _ _ h => h
          focus (refine Or.inl ⟨by rfl, ?_⟩; intro w hSw; (try dsimp only at hSw); go_simp <;> with_reducible rfl)
          focus assumption
          (try simp only [Act.put, List.setIfInBounds_toArray, List.set_cons_zero, List.set_cons_succ])
          refine wpAnyH_take (i := 1) (oi := { dst := some 18, op := Op.load 3 (Operand.tmp 17), type := 3, pos := "l10_roads.go:34", after := #[{ on := 0, ground := Ground.data }], guard := none }) (v := ?_) rfl ?_ ?_ ?_ ?_ ?_ ?_ ?_
          rotate_left
          focus kernel_rfl
          focus kernel_rfl
          focus kernel_rfl
          focus exact fun _ _ _ h => h
          focus (refine Or.inl ⟨by rfl, ?_⟩; intro w hSw; (try dsimp only at hSw); go_simp <;> with_reducible rfl)
          focus assumption
          (try simp only [Act.put, List.setIfInBounds_toArray, List.set_cons_zero, List.set_cons_succ])
          refine wpAnyH_take (i := 2) (oi := { dst := some 19, op := Op.fieldAddr 103 (Operand.tmp 4) 1, type := 0, pos := "l10_roads.go:34", after := #[], guard := none }) (v := ?_) rfl ?_ ?_ ?_ ?_ ?_ ?_ ?_
          rotate_left
          focus kernel_rfl
          focus kernel_rfl
          focus kernel_rfl
          focus exact fun _ _ _ h => h
          focus (refine Or.inl ⟨by rfl, ?_⟩; intro w hSw; (try dsimp only at hSw); go_simp <;> with_reducible rfl)
          focus assumption
          (try simp only [Act.put, List.setIfInBounds_toArray, List.set_cons_zero, List.set_cons_succ])
          refine wpAnyH_take (i := 3) (oi := { dst := some 20, op := Op.load 3 (Operand.tmp 19), type := 3, pos := "l10_roads.go:34", after := #[{ on := 2, ground := Ground.data }], guard := none }) (v := ?_) rfl ?_ ?_ ?_ ?_ ?_ ?_ ?_
          rotate_left
          focus kernel_rfl
          focus kernel_rfl
          focus kernel_rfl
          focus exact fun _ _ _ h => h
          focus (refine Or.inl ⟨by rfl, ?_⟩; intro w hSw; (try dsimp only at hSw); go_simp <;> with_reducible rfl)
          focus assumption
          (try simp only [Act.put, List.setIfInBounds_toArray, List.set_cons_zero, List.set_cons_succ])
          refine wpAnyH_ready (rs := [4]) (by kernel_rfl) (by simp) ?_
          refine AllReadyH.cons (o := { dst := some 21, op := Op.buildSlice 38 2 #[(0, Operand.tmp 18), (1, Operand.tmp 20)], type := 38, pos := "l10_roads.go:34", after := #[{ on := 1, ground := Ground.data }, { on := 3, ground := Ground.data }], guard := none }) rfl (fun K hK => ?_) AllReadyH.nil
          go_simp
          refine hK.out _ _ (by (try dsimp only); go_keep) (fun hHeld => ?_)
          clear hK K
          (try simp only [Act.put, List.setIfInBounds_toArray, List.set_cons_zero, List.set_cons_succ])
          refine wpAnyH_ready (rs := [5]) (by kernel_rfl) (by simp) ?_
          refine AllReadyH.cons (o := { dst := some 22, op := Op.call { callee := Callee.value (Operand.func 84), args := #[Operand.const (Value.int IntKind.i64 0), Operand.const (Value.int IntKind.i64 9999), Operand.tmp 21], argTypes := #[3, 3, 38] }, type := 4, pos := "l10_roads.go:34", after := #[{ on := 4, ground := Ground.data }], guard := none }) rfl (fun K hK => ?_) AllReadyH.nil
          go_simp
          (go_at_call 84; refine (areTwoD 0 9999 s.X s.Y _ _ _ rfl).mono ?_; rintro e w' ⟨rfl, rfl⟩; rw [Q2.out]; go_wp2_with fail)
          refine hK.out _ _ (by (try dsimp only); go_keep) (fun hHeld => ?_)
          clear hK K
          (try simp only [Act.put, List.setIfInBounds_toArray, List.set_cons_zero, List.set_cons_succ])
          refine wpAnyH_take (i := 6) (oi := { dst := some 23, op := Op.unOp UnOp.not 4 (Operand.tmp 22), type := 4, pos := "l10_roads.go:34", after := #[{ on := 5, ground := Ground.data }], guard := none }) (v := ?_) rfl ?_ ?_ ?_ ?_ ?_ ?_ ?_
          rotate_left
          focus kernel_rfl
          focus kernel_rfl
          focus kernel_rfl
          focus exact fun _ _ _ h => h
          focus (refine Or.inl ⟨by rfl, ?_⟩; intro w hSw; (try dsimp only at hSw); go_simp <;> with_reducible rfl)
          focus assumption
          (try simp only [Act.put, List.setIfInBounds_toArray, List.set_cons_zero, List.set_cons_succ])
          refine wpAnyH_take (i := 7) (oi := { dst := some 24, op := Op.move (Operand.tmp 23), type := 4, pos := "l10_roads.go:34", after := #[{ on := 6, ground := Ground.data }, { on := 5, ground := Ground.chain }], guard := none }) (v := ?_) rfl ?_ ?_ ?_ ?_ ?_ ?_ ?_
          rotate_left
          focus kernel_rfl
          focus kernel_rfl
          focus kernel_rfl
          focus exact fun _ _ _ h => h
          focus (refine Or.inl ⟨by rfl, ?_⟩; intro w hSw; (try dsimp only at hSw); go_simp <;> with_reducible rfl)
          focus assumption
          (try simp only [Act.put, List.setIfInBounds_toArray, List.set_cons_zero, List.set_cons_succ])
          refine wpAnyH_take (i := 8) (oi := { dst := some 25, op := Op.move (Operand.tmp 3), type := 3, pos := "l10_roads.go:34", after := #[{ on := 7, ground := Ground.guard }], guard := some (7, false) }) (v := undef) rfl ?_ ?_ ?_ ?_ ?_ ?_ ?_
          focus kernel_rfl
          focus kernel_rfl
          focus kernel_rfl
          focus exact fun _ _ _ h => h
          focus exact Or.inr ⟨by rfl, rfl⟩
          focus assumption
          (try simp only [Act.put, List.setIfInBounds_toArray, List.set_cons_zero, List.set_cons_succ])
          refine wpAnyH_take (i := 9) (oi := { dst := some 26, op := Op.binOp BinOp.gtr 3 (Operand.tmp 25) (Operand.const (Value.int IntKind.i64 0)) 3, type := 4, pos := "l10_roads.go:34", after := #[{ on := 8, ground := Ground.data }, { on := 7, ground := Ground.guard }], guard := some (7, false) }) (v := undef) rfl ?_ ?_ ?_ ?_ ?_ ?_ ?_
          focus kernel_rfl
          focus kernel_rfl
          focus kernel_rfl
          focus exact fun _ _ _ h => h
          focus exact Or.inr ⟨by rfl, rfl⟩
          focus assumption
          (try simp only [Act.put, List.setIfInBounds_toArray, List.set_cons_zero, List.set_cons_succ])
          refine wpAnyH_take (i := 10) (oi := { dst := some 27, op := Op.move (Operand.tmp 26), type := 4, pos := "l10_roads.go:34", after := #[{ on := 9, ground := Ground.data }, { on := 7, ground := Ground.chain }, { on := 7, ground := Ground.guard }], guard := some (7, false) }) (v := undef) rfl ?_ ?_ ?_ ?_ ?_ ?_ ?_
          focus kernel_rfl
          focus kernel_rfl
          focus kernel_rfl
          focus exact fun _ _ _ h => h
          focus exact Or.inr ⟨by rfl, rfl⟩
          focus assumption
          (try simp only [Act.put, List.setIfInBounds_toArray, List.set_cons_zero, List.set_cons_succ])
          refine wpAnyH_take (i := 11) (oi := { dst := some 28, op := Op.load 103 (Operand.tmp 4), type := 103, pos := "l10_roads.go:34", after := #[{ on := 10, ground := Ground.guard }], guard := some (10, true) }) (v := undef) rfl ?_ ?_ ?_ ?_ ?_ ?_ ?_
          focus kernel_rfl
          focus kernel_rfl
          focus kernel_rfl
          focus exact fun _ _ _ h => h
          focus exact Or.inr ⟨by rfl, rfl⟩
          focus assumption
          (try simp only [Act.put, List.setIfInBounds_toArray, List.set_cons_zero, List.set_cons_succ])
          refine wpAnyH_take (i := 12) (oi := { dst := some 29, op := Op.move (Operand.tmp 0), type := 47, pos := "l10_roads.go:34", after := #[{ on := 10, ground := Ground.guard }], guard := some (10, true) }) (v := undef) rfl ?_ ?_ ?_ ?_ ?_ ?_ ?_
          focus kernel_rfl
          focus kernel_rfl
          focus kernel_rfl
          focus exact fun _ _ _ h => h
          focus exact Or.inr ⟨by rfl, rfl⟩
          focus assumption
          (try simp only [Act.put, List.setIfInBounds_toArray, List.set_cons_zero, List.set_cons_succ])
          refine wpAnyH_take (i := 13) (oi := { dst := some 30, op := Op.move (Operand.tmp 3), type := 3, pos := "l10_roads.go:34", after := #[{ on := 10, ground := Ground.guard }], guard := some (10, true) }) (v := undef) rfl ?_ ?_ ?_ ?_ ?_ ?_ ?_
          focus kernel_rfl
          focus kernel_rfl
          focus kernel_rfl
          focus exact fun _ _ _ h => h
          focus exact Or.inr ⟨by rfl, rfl⟩
          focus assumption
          (try simp only [Act.put, List.setIfInBounds_toArray, List.set_cons_zero, List.set_cons_succ])
          refine wpAnyH_take (i := 14) (oi := { dst := some 31, op := Op.binOp BinOp.sub 3 (Operand.tmp 30) (Operand.const (Value.int IntKind.i64 1)) 3, type := 3, pos := "l10_roads.go:34", after := #[{ on := 13, ground := Ground.data }, { on := 10, ground := Ground.guard }], guard := some (10, true) }) (v := undef) rfl ?_ ?_ ?_ ?_ ?_ ?_ ?_
          focus kernel_rfl
          focus kernel_rfl
          focus kernel_rfl
          focus exact fun _ _ _ h => h
          focus exact Or.inr ⟨by rfl, rfl⟩
          focus assumption
          (try simp only [Act.put, List.setIfInBounds_toArray, List.set_cons_zero, List.set_cons_succ])
          refine wpAnyH_take (i := 15) (oi := { dst := some 32, op := Op.indexAddr 47 (Operand.tmp 29) (Operand.tmp 31), type := 0, pos := "l10_roads.go:34", after := #[{ on := 12, ground := Ground.data }, { on := 14, ground := Ground.data }, { on := 10, ground := Ground.guard }], guard := some (10, true) }) (v := undef) rfl ?_ ?_ ?_ ?_ ?_ ?_ ?_
          focus kernel_rfl
          focus kernel_rfl
          focus kernel_rfl
          focus exact fun _ _ _ h => h
          focus exact Or.inr ⟨by rfl, rfl⟩
          focus assumption
          (try simp only [Act.put, List.setIfInBounds_toArray, List.set_cons_zero, List.set_cons_succ])
          refine wpAnyH_take (i := 16) (oi := { dst := some 33, op := Op.load 103 (Operand.tmp 32), type := 103, pos := "l10_roads.go:34", after := #[{ on := 15, ground := Ground.data }, { on := 10, ground := Ground.guard }], guard := some (10, true) }) (v := undef) rfl ?_ ?_ ?_ ?_ ?_ ?_ ?_
          focus kernel_rfl
          focus kernel_rfl
          focus kernel_rfl
          focus exact fun _ _ _ h => h
          focus exact Or.inr ⟨by rfl, rfl⟩
          focus assumption
          (try simp only [Act.put, List.setIfInBounds_toArray, List.set_cons_zero, List.set_cons_succ])
          refine wpAnyH_take (i := 17) (oi := { dst := some 34, op := Op.binOp BinOp.eql 103 (Operand.tmp 28) (Operand.tmp 33) 103, type := 4, pos := "l10_roads.go:34", after := #[{ on := 11, ground := Ground.data }, { on := 16, ground := Ground.data }, { on := 10, ground := Ground.guard }], guard := some (10, true) }) (v := undef) rfl ?_ ?_ ?_ ?_ ?_ ?_ ?_
          focus kernel_rfl
          focus kernel_rfl
          focus kernel_rfl
          focus exact fun _ _ _ h => h
          focus exact Or.inr ⟨by rfl, rfl⟩
          focus assumption
          (try simp only [Act.put, List.setIfInBounds_toArray, List.set_cons_zero, List.set_cons_succ])
          refine wpAnyH_take (i := 18) (oi := { dst := some 35, op := Op.pick (Operand.tmp 27) (Operand.tmp 34) (Operand.const (Value.bool false)), type := 4, pos := "l10_roads.go:34", after := #[{ on := 10, ground := Ground.data }, { on := 17, ground := Ground.data }, { on := 7, ground := Ground.guard }], guard := some (7, false) }) (v := undef) rfl ?_ ?_ ?_ ?_ ?_ ?_ ?_
          focus kernel_rfl
          focus kernel_rfl
          focus kernel_rfl
          focus exact fun _ _ _ h => h
          focus exact Or.inr ⟨by rfl, rfl⟩
          focus assumption
          (try simp only [Act.put, List.setIfInBounds_toArray, List.set_cons_zero, List.set_cons_succ])
          refine wpAnyH_take (i := 19) (oi := { dst := some 36, op := Op.pick (Operand.tmp 24) (Operand.const (Value.bool true)) (Operand.tmp 35), type := 4, pos := "l10_roads.go:34", after := #[{ on := 7, ground := Ground.data }, { on := 18, ground := Ground.data }], guard := none }) (v := ?_) rfl ?_ ?_ ?_ ?_ ?_ ?_ ?_
          rotate_left
          focus kernel_rfl
          focus kernel_rfl
          focus kernel_rfl
          focus exact fun _ _ _ h => h
          focus (refine Or.inl ⟨by rfl, ?_⟩; intro w hSw; (try dsimp only at hSw); go_simp <;> with_reducible rfl)
          focus assumption
          (try simp only [Act.put, List.setIfInBounds_toArray, List.set_cons_zero, List.set_cons_succ])
          refine wpAnyH_done (by kernel_rfl) ?_ _
          refine NoPanic.normal ?_
          go_wp2
          go_ret
          exact ⟨ret_boolR F.out.symm, Below.then' B.out (Below.then' BW.out (drew_bel _ _))⟩
        · cases r
          · skip
            refine wp_region_noPanic ?_
            refine wp_region_held_drew (S := (fun w' => w'.cell? ⟨wr.heap.size, 0, none⟩ = some (.int .i64 s.X) ∧ w'.cell? ⟨wr.heap.size, 1, none⟩ = some (.int .i64 s.Y) ∧ w'.cell? ⟨b, o + j * 2, none⟩ = some (.int .i64 p.X) ∧ w'.cell? ⟨b, o + j * 2 + 1, none⟩ = some (.int .i64 p.Y))) (by kernel_rfl) (by (try dsimp only); go_keep) (fun hHeld => ?_)
            refine wpAnyH_take (i := 0) (oi := { dst := some 17, op := Op.fieldAddr 103 (Operand.tmp 4) 0, type := 0, pos := "l10_roads.go:34", after := #[], guard := none }) (v := ?_) rfl ?_ ?_ ?_ ?_ ?_ ?_ ?_
            rotate_left
            focus kernel_rfl
            focus kernel_rfl
            focus kernel_rfl
            focus exact fun _ _ _ h => h
            focus (refine Or.inl ⟨by rfl, ?_⟩; intro w hSw; (try dsimp only at hSw); go_simp <;> with_reducible rfl)
            focus assumption
            (try simp only [Act.put, List.setIfInBounds_toArray, List.set_cons_zero, List.set_cons_succ])
            refine wpAnyH_take (i := 1) (oi := { dst := some 18, op := Op.load 3 (Operand.tmp 17), type := 3, pos := "l10_roads.go:34", after := #[{ on := 0, ground := Ground.data }], guard := none }) (v := ?_) rfl ?_ ?_ ?_ ?_ ?_ ?_ ?_
            rotate_left
            focus kernel_rfl
            focus kernel_rfl
            focus kernel_rfl
            focus exact fun _ _ _ h => h
            focus (refine Or.inl ⟨by rfl, ?_⟩; intro w hSw; (try dsimp only at hSw); go_simp <;> with_reducible rfl)
            focus assumption
            (try simp only [Act.put, List.setIfInBounds_toArray, List.set_cons_zero, List.set_cons_succ])
            refine wpAnyH_take (i := 2) (oi := { dst := some 19, op := Op.fieldAddr 103 (Operand.tmp 4) 1, type := 0, pos := "l10_roads.go:34", after := #[], guard := none }) (v := ?_) rfl ?_ ?_ ?_ ?_ ?_ ?_ ?_
            rotate_left
            focus kernel_rfl
            focus kernel_rfl
            focus kernel_rfl
            focus exact fun _ _ _ h => h
            focus (refine Or.inl ⟨by rfl, ?_⟩; intro w hSw; (try dsimp only at hSw); go_simp <;> with_reducible rfl)
            focus assumption
            (try simp only [Act.put, List.setIfInBounds_toArray, List.set_cons_zero, List.set_cons_succ])
            refine wpAnyH_take (i := 3) (oi := { dst := some 20, op := Op.load 3 (Operand.tmp 19), type := 3, pos := "l10_roads.go:34", after := #[{ on := 2, ground := Ground.data }], guard := none }) (v := ?_) rfl ?_ ?_ ?_ ?_ ?_ ?_ ?_
            rotate_left
            focus kernel_rfl
            focus kernel_rfl
            focus kernel_rfl
            focus exact fun _ _ _ h => h
            focus (refine Or.inl ⟨by rfl, ?_⟩; intro w hSw; (try dsimp only at hSw); go_simp <;> with_reducible rfl)
            focus assumption
            (try simp only [Act.put, List.setIfInBounds_toArray, List.set_cons_zero, List.set_cons_succ])
            refine wpAnyH_ready (rs := [4]) (by kernel_rfl) (by simp) ?_
            refine AllReadyH.cons (o := { dst := some 21, op := Op.buildSlice 38 2 #[(0, Operand.tmp 18), (1, Operand.tmp 20)], type := 38, pos := "l10_roads.go:34", after := #[{ on := 1, ground := Ground.data }, { on := 3, ground := Ground.data }], guard := none }) rfl (fun K hK => ?_) AllReadyH.nil
            go_simp
            refine hK.out _ _ (by (try dsimp only); go_keep) (fun hHeld => ?_)
            clear hK K
            (try simp only [Act.put, List.setIfInBounds_toArray, List.set_cons_zero, List.set_cons_succ])
            refine wpAnyH_ready (rs := [5]) (by kernel_rfl) (by simp) ?_
            refine AllReadyH.cons (o := { dst := some 22, op := Op.call { callee := Callee.value (Operand.func 84), args := #[Operand.const (Value.int IntKind.i64 0), Operand.const (Value.int IntKind.i64 9999), Operand.tmp 21], argTypes := #[3, 3, 38] }, type := 4, pos := "l10_roads.go:34", after := #[{ on := 4, ground := Ground.data }], guard := none }) rfl (fun K hK => ?_) AllReadyH.nil
            go_simp
            (go_at_call 84; refine (areTwoD 0 9999 s.X s.Y _ _ _ rfl).mono ?_; rintro e w' ⟨rfl, rfl⟩; rw [Q2.out]; go_wp2_with fail)
            refine hK.out _ _ (by (try dsimp only); go_keep) (fun hHeld => ?_)
            clear hK K
            (try simp only [Act.put, List.setIfInBounds_toArray, List.set_cons_zero, List.set_cons_succ])
            refine wpAnyH_take (i := 6) (oi := { dst := some 23, op := Op.unOp UnOp.not 4 (Operand.tmp 22), type := 4, pos := "l10_roads.go:34", after := #[{ on := 5, ground := Ground.data }], guard := none }) (v := ?_) rfl ?_ ?_ ?_ ?_ ?_ ?_ ?_
            rotate_left
            focus kernel_rfl
            focus kernel_rfl
            focus kernel_rfl
            focus exact fun _ _ _ h => h
            focus (refine Or.inl ⟨by rfl, ?_⟩; intro w hSw; (try dsimp only at hSw); go_simp <;> with_reducible rfl)
            focus assumption
            (try simp only [Act.put, List.setIfInBounds_toArray, List.set_cons_zero, List.set_cons_succ])
            refine wpAnyH_take (i := 7) (oi := { dst := some 24, op := Op.move (Operand.tmp 23), type := 4, pos := "l10_roads.go:34", after := #[{ on := 6, ground := Ground.data }, { on := 5, ground := Ground.chain }], guard := none }) (v := ?_) rfl ?_ ?_ ?_ ?_ ?_ ?_ ?_
            rotate_left
            focus kernel_rfl
            focus kernel_rfl
            focus kernel_rfl
            focus exact fun _ _ _ h => h
            focus (refine Or.inl ⟨by rfl, ?_⟩; intro w hSw; (try dsimp only at hSw); go_simp <;> with_reducible rfl)
            focus assumption
            (try simp only [Act.put, List.setIfInBounds_toArray, List.set_cons_zero, List.set_cons_succ])
            refine wpAnyH_take (i := 8) (oi := { dst := some 25, op := Op.move (Operand.tmp 3), type := 3, pos := "l10_roads.go:34", after := #[{ on := 7, ground := Ground.guard }], guard := some (7, false) }) (v := ?_) rfl ?_ ?_ ?_ ?_ ?_ ?_ ?_
            rotate_left
            focus kernel_rfl
            focus kernel_rfl
            focus kernel_rfl
            focus exact fun _ _ _ h => h
            focus (refine Or.inl ⟨by rfl, ?_⟩; intro w hSw; (try dsimp only at hSw); go_simp <;> with_reducible rfl)
            focus assumption
            (try simp only [Act.put, List.setIfInBounds_toArray, List.set_cons_zero, List.set_cons_succ])
            refine wpAnyH_take (i := 9) (oi := { dst := some 26, op := Op.binOp BinOp.gtr 3 (Operand.tmp 25) (Operand.const (Value.int IntKind.i64 0)) 3, type := 4, pos := "l10_roads.go:34", after := #[{ on := 8, ground := Ground.data }, { on := 7, ground := Ground.guard }], guard := some (7, false) }) (v := ?_) rfl ?_ ?_ ?_ ?_ ?_ ?_ ?_
            rotate_left
            focus kernel_rfl
            focus kernel_rfl
            focus kernel_rfl
            focus exact fun _ _ _ h => h
            focus (refine Or.inl ⟨by rfl, ?_⟩; intro w hSw; (try dsimp only at hSw); go_simp <;> with_reducible rfl)
            focus assumption
            (try simp only [Act.put, List.setIfInBounds_toArray, List.set_cons_zero, List.set_cons_succ])
            refine wpAnyH_take (i := 10) (oi := { dst := some 27, op := Op.move (Operand.tmp 26), type := 4, pos := "l10_roads.go:34", after := #[{ on := 9, ground := Ground.data }, { on := 7, ground := Ground.chain }, { on := 7, ground := Ground.guard }], guard := some (7, false) }) (v := ?_) rfl ?_ ?_ ?_ ?_ ?_ ?_ ?_
            rotate_left
            focus kernel_rfl
            focus kernel_rfl
            focus kernel_rfl
            focus exact fun _ _ _ h => h
            focus (refine Or.inl ⟨by rfl, ?_⟩; intro w hSw; (try dsimp only at hSw); go_simp <;> with_reducible rfl)
            focus assumption
            (try simp only [Act.put, List.setIfInBounds_toArray, List.set_cons_zero, List.set_cons_succ])
            refine wpAnyH_take (i := 11) (oi := { dst := some 28, op := Op.load 103 (Operand.tmp 4), type := 103, pos := "l10_roads.go:34", after := #[{ on := 10, ground := Ground.guard }], guard := some (10, true) }) (v := ?_) rfl ?_ ?_ ?_ ?_ ?_ ?_ ?_
            rotate_left
            focus kernel_rfl
            focus kernel_rfl
            focus kernel_rfl
            focus exact fun _ _ _ h => h
            focus (refine Or.inl ⟨by rfl, ?_⟩; intro w hSw; (try dsimp only at hSw); go_simp <;> with_reducible rfl)
            focus assumption
            (try simp only [Act.put, List.setIfInBounds_toArray, List.set_cons_zero, List.set_cons_succ])
            refine wpAnyH_take (i := 12) (oi := { dst := some 29, op := Op.move (Operand.tmp 0), type := 47, pos := "l10_roads.go:34", after := #[{ on := 10, ground := Ground.guard }], guard := some (10, true) }) (v := ?_) rfl ?_ ?_ ?_ ?_ ?_ ?_ ?_
            rotate_left
            focus kernel_rfl
            focus kernel_rfl
            focus kernel_rfl
            focus exact fun _ _ _ h => h
            focus (refine Or.inl ⟨by rfl, ?_⟩; intro w hSw; (try dsimp only at hSw); go_simp <;> with_reducible rfl)
            focus assumption
            (try simp only [Act.put, List.setIfInBounds_toArray, List.set_cons_zero, List.set_cons_succ])
            refine wpAnyH_take (i := 13) (oi := { dst := some 30, op := Op.move (Operand.tmp 3), type := 3, pos := "l10_roads.go:34", after := #[{ on := 10, ground := Ground.guard }], guard := some (10, true) }) (v := ?_) rfl ?_ ?_ ?_ ?_ ?_ ?_ ?_
            rotate_left
            focus kernel_rfl
            focus kernel_rfl
            focus kernel_rfl
            focus exact fun _ _ _ h => h
            focus (refine Or.inl ⟨by rfl, ?_⟩; intro w hSw; (try dsimp only at hSw); go_simp <;> with_reducible rfl)
            focus assumption
            (try simp only [Act.put, List.setIfInBounds_toArray, List.set_cons_zero, List.set_cons_succ])
            refine wpAnyH_take (i := 14) (oi := { dst := some 31, op := Op.binOp BinOp.sub 3 (Operand.tmp 30) (Operand.const (Value.int IntKind.i64 1)) 3, type := 3, pos := "l10_roads.go:34", after := #[{ on := 13, ground := Ground.data }, { on := 10, ground := Ground.guard }], guard := some (10, true) }) (v := ?_) rfl ?_ ?_ ?_ ?_ ?_ ?_ ?_
            rotate_left
            focus kernel_rfl
            focus kernel_rfl
            focus kernel_rfl
            focus exact fun _ _ _ h => h
            focus (refine Or.inl ⟨by rfl, ?_⟩; intro w hSw; (try dsimp only at hSw); go_simp <;> with_reducible rfl)
            focus assumption
            (try simp only [Act.put, List.setIfInBounds_toArray, List.set_cons_zero, List.set_cons_succ])
            refine wpAnyH_take (i := 15) (oi := { dst := some 32, op := Op.indexAddr 47 (Operand.tmp 29) (Operand.tmp 31), type := 0, pos := "l10_roads.go:34", after := #[{ on := 12, ground := Ground.data }, { on := 14, ground := Ground.data }, { on := 10, ground := Ground.guard }], guard := some (10, true) }) (v := ?_) rfl ?_ ?_ ?_ ?_ ?_ ?_ ?_
            rotate_left
            focus kernel_rfl
            focus kernel_rfl
            focus kernel_rfl
            focus exact fun _ _ _ h => h
            focus (refine Or.inl ⟨by rfl, ?_⟩; intro w hSw; (try dsimp only at hSw); go_simp <;> with_reducible rfl)
            focus assumption
            (try simp only [Act.put, List.setIfInBounds_toArray, List.set_cons_zero, List.set_cons_succ])
            refine wpAnyH_take (i := 16) (oi := { dst := some 33, op := Op.load 103 (Operand.tmp 32), type := 103, pos := "l10_roads.go:34", after := #[{ on := 15, ground := Ground.data }, { on := 10, ground := Ground.guard }], guard := some (10, true) }) (v := ?_) rfl ?_ ?_ ?_ ?_ ?_ ?_ ?_
            rotate_left
            focus kernel_rfl
            focus kernel_rfl
            focus kernel_rfl
            focus exact fun _ _ _ h => h
            focus (refine Or.inl ⟨by rfl, ?_⟩; intro w hSw; (try dsimp only at hSw); go_simp <;> with_reducible rfl)
            focus assumption
            (try simp only [Act.put, List.setIfInBounds_toArray, List.set_cons_zero, List.set_cons_succ])
            refine wpAnyH_take (i := 17) (oi := { dst := some 34, op := Op.binOp BinOp.eql 103 (Operand.tmp 28) (Operand.tmp 33) 103, type := 4, pos := "l10_roads.go:34", after := #[{ on := 11, ground := Ground.data }, { on := 16, ground := Ground.data }, { on := 10, ground := Ground.guard }], guard := some (10, true) }) (v := ?_) rfl ?_ ?_ ?_ ?_ ?_ ?_ ?_
            rotate_left
            focus kernel_rfl
            focus kernel_rfl
            focus kernel_rfl
            focus exact fun _ _ _ h => h
            focus (refine Or.inl ⟨by rfl, ?_⟩; intro w hSw; (try dsimp only at hSw); go_simp <;> with_reducible rfl)
            focus assumption
            (try simp only [Act.put, List.setIfInBounds_toArray, List.set_cons_zero, List.set_cons_succ])
            refine wpAnyH_take (i := 18) (oi := { dst := some 35, op := Op.pick (Operand.tmp 27) (Operand.tmp 34) (Operand.const (Value.bool false)), type := 4, pos := "l10_roads.go:34", after := #[{ on := 10, ground := Ground.data }, { on := 17, ground := Ground.data }, { on := 7, ground := Ground.guard }], guard := some (7, false) }) (v := ?_) rfl ?_ ?_ ?_ ?_ ?_ ?_ ?_
            rotate_left
            focus kernel_rfl
            focus kernel_rfl
            focus kernel_rfl
            focus exact fun _ _ _ h => h
            focus (refine Or.inl ⟨by rfl, ?_⟩; intro w hSw; (try dsimp only at hSw); go_simp <;> with_reducible rfl)
            focus assumption
            (try simp only [Act.put, List.setIfInBounds_toArray, List.set_cons_zero, List.set_cons_succ])
            refine wpAnyH_take (i := 19) (oi := { dst := some 36, op := Op.pick (Operand.tmp 24) (Operand.const (Value.bool true)) (Operand.tmp 35), type := 4, pos := "l10_roads.go:34", after := #[{ on := 7, ground := Ground.data }, { on := 18, ground := Ground.data }], guard := none }) (v := ?_) rfl ?_ ?_ ?_ ?_ ?_ ?_ ?_
            rotate_left
            focus kernel_rfl
            focus kernel_rfl
            focus kernel_rfl
            focus exact fun _ _ _ h => h
            focus (refine Or.inl ⟨by rfl, ?_⟩; intro w hSw; (try dsimp only at hSw); go_simp <;> with_reducible rfl)
            focus assumption
            (try simp only [Act.put, List.setIfInBounds_toArray, List.set_cons_zero, List.set_cons_succ])
            refine wpAnyH_done (by kernel_rfl) ?_ _
            refine NoPanic.normal ?_
            go_wp2
            go_roundw
            case rel => exact ⟨(j + 1) + 1, by omega, by go_num, by rw [GS.out, H.out, GK.out]; rfl, Below.then' B.out (Below.then' BW.out (drew_bel _ _))⟩
            case measure => simp [intOf]; omega
          · have F := Lib.hid (show roadB xs = false from by rw [RB.out]; exact goodTo_no hlt GK.out)
            refine wp_region_noPanic ?_
            refine wp_region_held_drew (S := (fun w' => w'.cell? ⟨wr.heap.size, 0, none⟩ = some (.int .i64 s.X) ∧ w'.cell? ⟨wr.heap.size, 1, none⟩ = some (.int .i64 s.Y) ∧ w'.cell? ⟨b, o + j * 2, none⟩ = some (.int .i64 p.X) ∧ w'.cell? ⟨b, o + j * 2 + 1, none⟩ = some (.int .i64 p.Y))) (by kernel_rfl) (by (try dsimp only); go_keep) (fun hHeld => ?_)
            refine wpAnyH_take (i := 0) (oi := { dst := some 17, op := Op.fieldAddr 103 (Operand.tmp 4) 0, type := 0, pos := "l10_roads.go:34", after := #[], guard := none }) (v := ?_) rfl ?_ ?_ ?_ ?_ ?_ ?_ ?_
            rotate_left
            focus kernel_rfl
            focus kernel_rfl
            focus kernel_rfl
            focus exact fun _ _ _ h => h
            focus (refine Or.inl ⟨by rfl, ?_⟩; intro w hSw; (try dsimp only at hSw); go_simp <;> with_reducible rfl)
            focus assumption
            (try simp only [Act.put, List.setIfInBounds_toArray, List.set_cons_zero, List.set_cons_succ])
            refine wpAnyH_take (i := 1) (oi := { dst := some 18, op := Op.load 3 (Operand.tmp 17), type := 3, pos := "l10_roads.go:34", after := #[{ on := 0, ground := Ground.data }], guard := none }) (v := ?_) rfl ?_ ?_ ?_ ?_ ?_ ?_ ?_
            rotate_left
            focus kernel_rfl
            focus kernel_rfl
            focus kernel_rfl
            focus exact fun _ _ _ h => h
            focus (refine Or.inl ⟨by rfl, ?_⟩; intro w hSw; (try dsimp only at hSw); go_simp <;> with_reducible rfl)
            focus assumption
            (try simp only [Act.put, List.setIfInBounds_toArray, List.set_cons_zero, List.set_cons_succ])
            refine wpAnyH_take (i := 2) (oi := { dst := some 19, op := Op.fieldAddr 103 (Operand.tmp 4) 1, type := 0, pos := "l10_roads.go:34", after := #[], guard := none }) (v := ?_) rfl ?_ ?_ ?_ ?_ ?_ ?_ ?_
            rotate_left
            focus kernel_rfl
            focus kernel_rfl
            focus kernel_rfl
            focus exact fun _ _ _ h => h
            focus (refine Or.inl ⟨by rfl, ?_⟩; intro w hSw; (try dsimp only at hSw); go_simp <;> with_reducible rfl)
            focus assumption
            (try simp only [Act.put, List.setIfInBounds_toArray, List.set_cons_zero, List.set_cons_succ])
            refine wpAnyH_take (i := 3) (oi := { dst := some 20, op := Op.load 3 (Operand.tmp 19), type := 3, pos := "l10_roads.go:34", after := #[{ on := 2, ground := Ground.data }], guard := none }) (v := ?_) rfl ?_ ?_ ?_ ?_ ?_ ?_ ?_
            rotate_left
            focus kernel_rfl
            focus kernel_rfl
            focus kernel_rfl
            focus exact fun _ _ _ h => h
            focus (refine Or.inl ⟨by rfl, ?_⟩; intro w hSw; (try dsimp only at hSw); go_simp <;> with_reducible rfl)
            focus assumption
            (try simp only [Act.put, List.setIfInBounds_toArray, List.set_cons_zero, List.set_cons_succ])
            refine wpAnyH_ready (rs := [4]) (by kernel_rfl) (by simp) ?_
            refine AllReadyH.cons (o := { dst := some 21, op := Op.buildSlice 38 2 #[(0, Operand.tmp 18), (1, Operand.tmp 20)], type := 38, pos := "l10_roads.go:34", after := #[{ on := 1, ground := Ground.data }, { on := 3, ground := Ground.data }], guard := none }) rfl (fun K hK => ?_) AllReadyH.nil
            go_simp
            refine hK.out _ _ (by (try dsimp only); go_keep) (fun hHeld => ?_)
            clear hK K
            (try simp only [Act.put, List.setIfInBounds_toArray, List.set_cons_zero, List.set_cons_succ])
            refine wpAnyH_ready (rs := [5]) (by kernel_rfl) (by simp) ?_
            refine AllReadyH.cons (o := { dst := some 22, op := Op.call { callee := Callee.value (Operand.func 84), args := #[Operand.const (Value.int IntKind.i64 0), Operand.const (Value.int IntKind.i64 9999), Operand.tmp 21], argTypes := #[3, 3, 38] }, type := 4, pos := "l10_roads.go:34", after := #[{ on := 4, ground := Ground.data }], guard := none }) rfl (fun K hK => ?_) AllReadyH.nil
            go_simp
            (go_at_call 84; refine (areTwoD 0 9999 s.X s.Y _ _ _ rfl).mono ?_; rintro e w' ⟨rfl, rfl⟩; rw [Q2.out]; go_wp2_with fail)
            refine hK.out _ _ (by (try dsimp only); go_keep) (fun hHeld => ?_)
            clear hK K
            (try simp only [Act.put, List.setIfInBounds_toArray, List.set_cons_zero, List.set_cons_succ])
            refine wpAnyH_take (i := 6) (oi := { dst := some 23, op := Op.unOp UnOp.not 4 (Operand.tmp 22), type := 4, pos := "l10_roads.go:34", after := #[{ on := 5, ground := Ground.data }], guard := none }) (v := ?_) rfl ?_ ?_ ?_ ?_ ?_ ?_ ?_
            rotate_left
            focus kernel_rfl
            focus kernel_rfl
            focus kernel_rfl
            focus exact fun _ _ _ h => h
            focus (refine Or.inl ⟨by rfl, ?_⟩; intro w hSw; (try dsimp only at hSw); go_simp <;> with_reducible rfl)
            focus assumption
            (try simp only [Act.put, List.setIfInBounds_toArray, List.set_cons_zero, List.set_cons_succ])
            refine wpAnyH_take (i := 7) (oi := { dst := some 24, op := Op.move (Operand.tmp 23), type := 4, pos := "l10_roads.go:34", after := #[{ on := 6, ground := Ground.data }, { on := 5, ground := Ground.chain }], guard := none }) (v := ?_) rfl ?_ ?_ ?_ ?_ ?_ ?_ ?_
            rotate_left
            focus kernel_rfl
            focus kernel_rfl
            focus kernel_rfl
            focus exact fun _ _ _ h => h
            focus (refine Or.inl ⟨by rfl, ?_⟩; intro w hSw; (try dsimp only at hSw); go_simp <;> with_reducible rfl)
            focus assumption
            (try simp only [Act.put, List.setIfInBounds_toArray, List.set_cons_zero, List.set_cons_succ])
            refine wpAnyH_take (i := 8) (oi := { dst := some 25, op := Op.move (Operand.tmp 3), type := 3, pos := "l10_roads.go:34", after := #[{ on := 7, ground := Ground.guard }], guard := some (7, false) }) (v := ?_) rfl ?_ ?_ ?_ ?_ ?_ ?_ ?_
            rotate_left
            focus kernel_rfl
            focus kernel_rfl
            focus kernel_rfl
            focus exact fun _ _ _ h => h
            focus (refine Or.inl ⟨by rfl, ?_⟩; intro w hSw; (try dsimp only at hSw); go_simp <;> with_reducible rfl)
            focus assumption
            (try simp only [Act.put, List.setIfInBounds_toArray, List.set_cons_zero, List.set_cons_succ])
            refine wpAnyH_take (i := 9) (oi := { dst := some 26, op := Op.binOp BinOp.gtr 3 (Operand.tmp 25) (Operand.const (Value.int IntKind.i64 0)) 3, type := 4, pos := "l10_roads.go:34", after := #[{ on := 8, ground := Ground.data }, { on := 7, ground := Ground.guard }], guard := some (7, false) }) (v := ?_) rfl ?_ ?_ ?_ ?_ ?_ ?_ ?_
            rotate_left
            focus kernel_rfl
            focus kernel_rfl
            focus kernel_rfl
            focus exact fun _ _ _ h => h
            focus (refine Or.inl ⟨by rfl, ?_⟩; intro w hSw; (try dsimp only at hSw); go_simp <;> with_reducible rfl)
            focus assumption
            (try simp only [Act.put, List.setIfInBounds_toArray, List.set_cons_zero, List.set_cons_succ])
            refine wpAnyH_take (i := 10) (oi := { dst := some 27, op := Op.move (Operand.tmp 26), type := 4, pos := "l10_roads.go:34", after := #[{ on := 9, ground := Ground.data }, { on := 7, ground := Ground.chain }, { on := 7, ground := Ground.guard }], guard := some (7, false) }) (v := ?_) rfl ?_ ?_ ?_ ?_ ?_ ?_ ?_
            rotate_left
            focus kernel_rfl
            focus kernel_rfl
            focus kernel_rfl
            focus exact fun _ _ _ h => h
            focus (refine Or.inl ⟨by rfl, ?_⟩; intro w hSw; (try dsimp only at hSw); go_simp <;> with_reducible rfl)
            focus assumption
            (try simp only [Act.put, List.setIfInBounds_toArray, List.set_cons_zero, List.set_cons_succ])
            refine wpAnyH_take (i := 11) (oi := { dst := some 28, op := Op.load 103 (Operand.tmp 4), type := 103, pos := "l10_roads.go:34", after := #[{ on := 10, ground := Ground.guard }], guard := some (10, true) }) (v := ?_) rfl ?_ ?_ ?_ ?_ ?_ ?_ ?_
            rotate_left
            focus kernel_rfl
            focus kernel_rfl
            focus kernel_rfl
            focus exact fun _ _ _ h => h
            focus (refine Or.inl ⟨by rfl, ?_⟩; intro w hSw; (try dsimp only at hSw); go_simp <;> with_reducible rfl)
            focus assumption
            (try simp only [Act.put, List.setIfInBounds_toArray, List.set_cons_zero, List.set_cons_succ])
            refine wpAnyH_take (i := 12) (oi := { dst := some 29, op := Op.move (Operand.tmp 0), type := 47, pos := "l10_roads.go:34", after := #[{ on := 10, ground := Ground.guard }], guard := some (10, true) }) (v := ?_) rfl ?_ ?_ ?_ ?_ ?_ ?_ ?_
            rotate_left
            focus kernel_rfl
            focus kernel_rfl
            focus kernel_rfl
            focus exact fun _ _ _ h => h
            focus (refine Or.inl ⟨by rfl, ?_⟩; intro w hSw; (try dsimp only at hSw); go_simp <;> with_reducible rfl)
            focus assumption
            (try simp only [Act.put, List.setIfInBounds_toArray, List.set_cons_zero, List.set_cons_succ])
            refine wpAnyH_take (i := 13) (oi := { dst := some 30, op := Op.move (Operand.tmp 3), type := 3, pos := "l10_roads.go:34", after := #[{ on := 10, ground := Ground.guard }], guard := some (10, true) }) (v := ?_) rfl ?_ ?_ ?_ ?_ ?_ ?_ ?_
            rotate_left
            focus kernel_rfl
            focus kernel_rfl
            focus kernel_rfl
            focus exact fun _ _ _ h => h
            focus (refine Or.inl ⟨by rfl, ?_⟩; intro w hSw; (try dsimp only at hSw); go_simp <;> with_reducible rfl)
            focus assumption
            (try simp only [Act.put, List.setIfInBounds_toArray, List.set_cons_zero, List.set_cons_succ])
            refine wpAnyH_take (i := 14) (oi := { dst := some 31, op := Op.binOp BinOp.sub 3 (Operand.tmp 30) (Operand.const (Value.int IntKind.i64 1)) 3, type := 3, pos := "l10_roads.go:34", after := #[{ on := 13, ground := Ground.data }, { on := 10, ground := Ground.guard }], guard := some (10, true) }) (v := ?_) rfl ?_ ?_ ?_ ?_ ?_ ?_ ?_
            rotate_left
            focus kernel_rfl
            focus kernel_rfl
            focus kernel_rfl
            focus exact fun _ _ _ h => h
            focus (refine Or.inl ⟨by rfl, ?_⟩; intro w hSw; (try dsimp only at hSw); go_simp <;> with_reducible rfl)
            focus assumption
            (try simp only [Act.put, List.setIfInBounds_toArray, List.set_cons_zero, List.set_cons_succ])
            refine wpAnyH_take (i := 15) (oi := { dst := some 32, op := Op.indexAddr 47 (Operand.tmp 29) (Operand.tmp 31), type := 0, pos := "l10_roads.go:34", after := #[{ on := 12, ground := Ground.data }, { on := 14, ground := Ground.data }, { on := 10, ground := Ground.guard }], guard := some (10, true) }) (v := ?_) rfl ?_ ?_ ?_ ?_ ?_ ?_ ?_
            rotate_left
            focus kernel_rfl
            focus kernel_rfl
            focus kernel_rfl
            focus exact fun _ _ _ h => h
            focus (refine Or.inl ⟨by rfl, ?_⟩; intro w hSw; (try dsimp only at hSw); go_simp <;> with_reducible rfl)
            focus assumption
            (try simp only [Act.put, List.setIfInBounds_toArray, List.set_cons_zero, List.set_cons_succ])
            refine wpAnyH_take (i := 16) (oi := { dst := some 33, op := Op.load 103 (Operand.tmp 32), type := 103, pos := "l10_roads.go:34", after := #[{ on := 15, ground := Ground.data }, { on := 10, ground := Ground.guard }], guard := some (10, true) }) (v := ?_) rfl ?_ ?_ ?_ ?_ ?_ ?_ ?_
            rotate_left
            focus kernel_rfl
            focus kernel_rfl
            focus kernel_rfl
            focus exact fun _ _ _ h => h
            focus (refine Or.inl ⟨by rfl, ?_⟩; intro w hSw; (try dsimp only at hSw); go_simp <;> with_reducible rfl)
            focus assumption
            (try simp only [Act.put, List.setIfInBounds_toArray, List.set_cons_zero, List.set_cons_succ])
            refine wpAnyH_take (i := 17) (oi := { dst := some 34, op := Op.binOp BinOp.eql 103 (Operand.tmp 28) (Operand.tmp 33) 103, type := 4, pos := "l10_roads.go:34", after := #[{ on := 11, ground := Ground.data }, { on := 16, ground := Ground.data }, { on := 10, ground := Ground.guard }], guard := some (10, true) }) (v := ?_) rfl ?_ ?_ ?_ ?_ ?_ ?_ ?_
            rotate_left
            focus kernel_rfl
            focus kernel_rfl
            focus kernel_rfl
            focus exact fun _ _ _ h => h
            focus (refine Or.inl ⟨by rfl, ?_⟩; intro w hSw; (try dsimp only at hSw); go_simp <;> with_reducible rfl)
            focus assumption
            (try simp only [Act.put, List.setIfInBounds_toArray, List.set_cons_zero, List.set_cons_succ])
            refine wpAnyH_take (i := 18) (oi := { dst := some 35, op := Op.pick (Operand.tmp 27) (Operand.tmp 34) (Operand.const (Value.bool false)), type := 4, pos := "l10_roads.go:34", after := #[{ on := 10, ground := Ground.data }, { on := 17, ground := Ground.data }, { on := 7, ground := Ground.guard }], guard := some (7, false) }) (v := ?_) rfl ?_ ?_ ?_ ?_ ?_ ?_ ?_
            rotate_left
            focus kernel_rfl
            focus kernel_rfl
            focus kernel_rfl
            focus exact fun _ _ _ h => h
            focus (refine Or.inl ⟨by rfl, ?_⟩; intro w hSw; (try dsimp only at hSw); go_simp <;> with_reducible rfl)
            focus assumption
            (try simp only [Act.put, List.setIfInBounds_toArray, List.set_cons_zero, List.set_cons_succ])
            refine wpAnyH_take (i := 19) (oi := { dst := some 36, op := Op.pick (Operand.tmp 24) (Operand.const (Value.bool true)) (Operand.tmp 35), type := 4, pos := "l10_roads.go:34", after := #[{ on := 7, ground := Ground.data }, { on := 18, ground := Ground.data }], guard := none }) (v := ?_) rfl ?_ ?_ ?_ ?_ ?_ ?_ ?_
            rotate_left
            focus kernel_rfl
            focus kernel_rfl
            focus kernel_rfl
            focus exact fun _ _ _ h => h
            focus (refine Or.inl ⟨by rfl, ?_⟩; intro w hSw; (try dsimp only at hSw); go_simp <;> with_reducible rfl)
            focus assumption
            (try simp only [Act.put, List.setIfInBounds_toArray, List.set_cons_zero, List.set_cons_succ])
            refine wpAnyH_done (by kernel_rfl) ?_ _
            refine NoPanic.normal ?_
            go_wp2
            go_ret
            exact ⟨ret_boolR F.out.symm, Below.then' B.out (Below.then' BW.out (drew_bel _ _))⟩
    · obtain rfl : k = xs.length := by omega
      have F := Lib.hid (show roadB xs = true from by rw [RB.out]; exact H.out)
      clear hbel
      go_wp2
      go_ret
      exact ⟨ret_boolR F.out.symm, B.out⟩
theorem implIsRoadLine_any (a : Option Addr) (len cap : Nat) (xs : List VCorner) (w : World) (h : IsCornerS w a len cap xs) : Calls Try.prog 64 #[.slice a len cap] w (IsRoadLine_Post xs w) := isRoad_any a len cap xs w h
end Go.Proofs.Ytpnaciamnigbnaa
