/- A number put to its place, in the model: where the row that comes out lies. -/
import Derived.Test.YtffbljbgmgifnaaPutL
namespace Go.Proofs.Ytffbljbgmgifnaa
open Go.RowKit

/-- The list comes out, in the slice that was handed in or in a row of the call's own. -/
def ReadsPut (a : Option Addr) (len cap : Nat) (zs : List Int) (w : World) (e : Ending) (w' : World) : Prop := ∃ h : Hd, e = .returned (.slice h.a h.n h.c) ∧ IsInts w' h.a h.n h.c zs ∧ Below w.heap.size w w' ∧ ((h.a = a ∧ h.n = len ∧ h.c = cap) ∨ w'.ownsRow w.heap.size 3 1 (.slice h.a h.n h.c) zs.length (intCells zs))
set_option maxHeartbeats 25600000 in
set_option maxRecDepth 100000 in
theorem l1PutO_any (a : Option Addr) (len cap : Nat) (zs : List Int) (n : Int) (w : World) (h : IsInts w a len cap zs) (hx : zs.length ≤ 1000) :
    Calls Try.prog 113 #[.slice a len cap, .int .i64 n] w (ReadsPut a len cap (putN n zs) w) := by
  obtain ⟨i1, hi1, hy0, hy1, hy2⟩ := info_parts infoInt
  have hm := h.2.2.1
  have hcl := h.2.1
  unfold maxLen at hm
  have S := Lib.hid h
  have L := Lib.hid h.1
  have hl10 : len ≤ 1000 := by have := h.1; omega
  clear h
  go_enter Try.func113, Try.ntmps113
  go_wp2
  go_loop [5] (fun i => ∃ k : Nat, k ≤ len ∧ i = .int .i64 k ∧ ∀ (j : Nat) z, j < k → zs[j]? = some z → z < n) (fun i => len - (intOf i).toNat)
  case atStart => exact ⟨0, Nat.zero_le _, rfl, fun _ _ h => by omega⟩
  case round =>
    obtain ⟨k, hk, rfl, hall⟩ := hrel
    have A := Lib.hid hall
    clear hall
    have k0 : (0 : Int) ≤ (k : Int) := by omega
    have kl : (k : Int) ≤ (len : Int) := by omega
    have kc : k ≤ cap := by omega
    have kc2 : (k : Int) ≤ (cap : Int) := by omega
    by_cases hlt : k < len
    · obtain ⟨z, hz⟩ := el_at L hlt
      obtain ⟨b, o, rfl, hb, hat⟩ := S.out.at (by omega)
      have c0 := hat k z hz
      have AT := Lib.hid hat
      have Z := Lib.hid hz
      have hi1' : (k : Int) < (len : Int) := by omega
      clear hz hat
      by_cases hzn : z < n
      · go_wp2
        go_round
        case rel => exact ⟨k + 1, by omega, by go_num, fun j y hj hy => by
          by_cases e : j = k
          · subst e; rw [Z.out] at hy; cases hy; exact hzn
          · exact A.out j y (by omega) hy⟩
        case measure => simp [intOf]; omega
      · have PA := Lib.hid (putN_at A.out (fun y hy => by rw [Z.out] at hy; cases hy; exact hzn) (by have := L.out; omega) : putN n zs = if zs[k]? = some n then zs else zs.take k ++ n :: zs.drop k)
        by_cases hze : z = n
        · have E := Lib.hid (show putN n zs = zs from by rw [PA.out, Z.out, if_pos (by rw [hze])])
          have hb1 : (z == n) = true := by simpa using hze
          subst hze
          go_wp2
          go_ret
          exact ⟨⟨_, len, cap⟩, rfl, by rw [E.out]; exact S.out, Below.refl _ _, .inl ⟨rfl, rfl, rfl⟩⟩
        · have E := Lib.hid (show putN n zs = zs.take k ++ n :: zs.drop k from by rw [PA.out, Z.out, if_neg (fun e => hze (Option.some.inj e))])
          have hb1 : (z == n) = false := by simpa using hze
          have hcj : ¬ cap = k := by omega
          clear PA
          go_wp2_with fail
          refine wp_world (fun W => Below w.heap.size w W) (by first | exact Below.refl _ _ | exact bel_drawn _ _) ?_
          intro W hbw
          have BW := Lib.hid hbw
          have hW0 := hbw.size
          clear hbw c0
          have hj' : k ≤ len := hk
          go_region_law (first
            | (refine step_append_some (by rfl) (.tmp 33) (.tmp 36) 49 (by rfl) W.heap.size 3 i1 (.int .i64 0) 1 8 Try.underlying49 hi1 hy0 hy1 hy2 (by rfl) (by decide) _ (by simp [Act.eval]; rfl) _ _ 0 [] (by rfl) (by first | exact made_intsN W.drew W.heap.size (Nat.le_refl _) | exact (made_intsN W.drew W.heap.size (Nat.le_refl _)).alloc (.cells #[.int .i64 n] 3) | exact madeLaterN W (.cells #[.int .i64 n] 3)) _ (by simp [Act.eval]; rfl) _ k _ (intCells (zs.take k)) (by rfl) (by first | exact srcInts_takeN (S.out.below (belDAN BW.out _)) hj' | exact srcInts_takeN (S.out.below (belDAAN BW.out _ _)) hj') (one_intsN _) (by unfold maxLen; omega) (by omega) (by first | exact (belDAN (Below.refl W.heap.size W) _).size | exact (belDAAN (Below.refl W.heap.size W) _ _).size) ?_; intro g5 c5 w5 hown5 hgrow5 hn5 hc5 hg5 hl5; rw [Nat.zero_add, List.nil_append] at hown5; have O5 := Lib.hid hown5; have hs5 : W.heap.size ≤ w5.heap.size := by omega
               have B5 := Lib.hid (show Below w.heap.size w w5 from by first | exact (belDAN BW.out _).grown hgrow5 (belDAN BW.out _).size (fun j e => by cases e; omega) | exact (belDAAN BW.out _ _).grown hgrow5 (belDAAN BW.out _ _).size (fun j e => by cases e; omega))
               try have N5 := Lib.hid (lit_LN hgrow5)
               try have N5 := Lib.hid (lit_MN hgrow5)
               clear hown5 hgrow5)
            | (refine step_append_some (by rfl) (.tmp 37) (.tmp 39) 49 (by rfl) W.heap.size 3 i1 (.int .i64 0) 1 8 Try.underlying49 hi1 hy0 hy1 hy2 (by rfl) (by decide) _ (by simp [Act.eval]; rfl) g5 c5 k (intCells (zs.take k)) (by rfl) (by first | exact O5.out | exact O5.out.alloc _) _ (by simp [Act.eval]; rfl) _ 1 1 [.int .i64 n] (by rfl) (by first | exact src_oneN N5.out | exact src_oneN (cell_box w5 (.int .i64 n) 3 _ rfl)) (one_intN n) (by unfold maxLen; omega) (by omega) (by first | exact hs5 | exact Nat.le_trans hs5 (bel_al1 w5 _).size) ?_; intro g6 c6 w6 hown6 hgrow6 hn6 hc6 hg6 hl6; have O6 := Lib.hid hown6; have hs6 : W.heap.size ≤ w6.heap.size := by omega
               have B6 := Lib.hid (show Below w.heap.size w w6 from by first | exact B5.out.grown hgrow6 B5.out.size (fun j e => by cases e; omega) | exact (Below.then' B5.out (bel_al1 _ _)).grown hgrow6 (Below.then' B5.out (bel_al1 _ _)).size (fun j e => by cases e; omega))
               clear hown6 hgrow6)
            | (refine step_append_some (by rfl) (.tmp 40) (.tmp 43) 49 (by rfl) W.heap.size 3 i1 (.int .i64 0) 1 8 Try.underlying49 hi1 hy0 hy1 hy2 (by rfl) (by decide) _ (by simp [Act.eval]; rfl) g6 c6 (k + 1) (intCells (zs.take k) ++ [.int .i64 n]) (by rfl) O6.out _ (by simp [Act.eval]; rfl) _ (len - k) _ (intCells (zs.drop k)) (by rfl) (srcInts_dropN (S.out.below B6.out) hj') (one_intsN _) (by unfold maxLen; omega) (by omega) hs6 ?_; intro g7 c7 w7 hown7 hgrow7 hn7 hc7 hg7 hl7
               have O7 := Lib.hid hown7
               have B7 := Lib.hid (show Below w.heap.size w w7 from B6.out.grown hgrow7 B6.out.size (fun j e => by cases e; omega))
               clear hown7 hgrow7))
          all_goals go_wp2
          all_goals go_ret
          all_goals
            have h := O7.out
            have hln : k + 1 + (len - k) = (zs.take k ++ n :: zs.drop k).length := by have := L.out; rw [List.length_append, List.length_take, List.length_cons, List.length_drop]; omega
            rw [show intCells (zs.take k) ++ [Value.int .i64 n] ++ intCells (zs.drop k) = intCells (zs.take k ++ n :: zs.drop k) from by simp [intCells]] at h
            refine ⟨⟨_, _, _⟩, rfl, by rw [E.out]; exact ints_putN h hln, B7.out, .inr ?_⟩
            rw [E.out]
            exact hln ▸ ownsRow_base h hW0
    · obtain rfl : k = len := by omega
      have E := Lib.hid (show putN n zs = zs ++ [n] from by
        have hz : zs.length ≤ k := by have := L.out; omega
        have h := putN_at (zs := zs) (k := k) A.out (fun y hy => by rw [List.getElem?_eq_none hz] at hy; cases hy) (by have := L.out; omega)
        rw [h, if_neg (by rw [List.getElem?_eq_none hz]; simp), List.take_of_length_le hz, List.drop_of_length_le hz])
      have TK := Lib.hid (show zs.take k = zs from List.take_of_length_le (by have := L.out; omega))
      have hj' : k ≤ k := Nat.le_refl _
      go_wp2_with fail
      refine wp_world (fun W => Below w.heap.size w W) (by first | exact Below.refl _ _ | exact bel_drawn _ _) ?_
      intro W hbw
      have BW := Lib.hid hbw
      have hW0 := hbw.size
      clear hbw
      by_cases hcj : cap = k
      all_goals rcases a with _ | p
      all_goals
          go_region_law (first
            | (refine step_append_optN (by rfl) (.tmp 33) (.tmp 36) 49 (by rfl) W.heap.size 3 i1 (.int .i64 0) 1 8 Try.underlying49 hi1 hy0 hy1 hy2 (by rfl) (by decide) _ (by simp [Act.eval] <;> rfl) 0 [] (by first | exact made_intsN W.drew W.heap.size (Nat.le_refl _) | exact (made_intsN W.drew W.heap.size (Nat.le_refl _)).alloc (.cells #[.int .i64 n] 3) | exact madeLaterN W (.cells #[.int .i64 n] 3)) _ (by simp [Act.eval] <;> rfl) _ k _ (intCells (zs.take k)) (by rfl) (by first | exact srcInts_takeN (S.out.below (belDAN BW.out _)) hj' | exact srcInts_takeN (S.out.below (belDAAN BW.out _ _)) hj') (one_intsN _) (by unfold maxLen; omega) (by omega) (by first | exact (belDAN (Below.refl W.heap.size W) _).size | exact (belDAAN (Below.refl W.heap.size W) _ _).size) ?_; intro v5 w5 hown5 hgrow5; rw [Nat.zero_add, List.nil_append] at hown5; have O5 := Lib.hid hown5
               have B5W := Lib.hid (show Below W.heap.size W w5 from by first | exact (belDAN (Below.refl _ W) _).grown hgrow5 (belDAN (Below.refl _ W) _).size (fun j e => by have := own_is e; omega) | exact (belDAAN (Below.refl _ W) _ _).grown hgrow5 (belDAAN (Below.refl _ W) _ _).size (fun j e => by have := own_is e; omega))
               have hs5 : W.heap.size ≤ w5.heap.size := B5W.out.size
               have B5 := Lib.hid (Below.then' BW.out B5W.out)
               try have N5 := Lib.hid (lit_LN hgrow5)
               try have N5 := Lib.hid (lit_MN hgrow5)
               clear hown5 hgrow5)
            | (refine step_append_optN (by rfl) (.tmp 37) (.tmp 39) 49 (by rfl) W.heap.size 3 i1 (.int .i64 0) 1 8 Try.underlying49 hi1 hy0 hy1 hy2 (by rfl) (by decide) _ (by simp [Act.eval] <;> rfl) k (intCells (zs.take k)) (by first | exact O5.out | exact O5.out.alloc _) _ (by simp [Act.eval] <;> rfl) _ 1 1 [.int .i64 n] (by rfl) (by first | exact src_oneN N5.out | exact src_oneN (cell_box w5 (.int .i64 n) 3 _ rfl)) (one_intN n) (by unfold maxLen; omega) (by omega) (by first | exact hs5 | exact Nat.le_trans hs5 (bel_al1 w5 _).size) ?_; intro v6 w6 hown6 hgrow6; have O6 := Lib.hid hown6
               have B6 := Lib.hid (show Below w.heap.size w w6 from by first | exact B5.out.grown hgrow6 B5.out.size (fun j e => Nat.le_trans hW0 (O5.out.lt j e).1) | exact (Below.then' B5.out (bel_al1 _ _)).grown hgrow6 (Below.then' B5.out (bel_al1 _ _)).size (fun j e => Nat.le_trans hW0 (O5.out.lt j e).1))
               have hs6 : W.heap.size ≤ w6.heap.size := by first | exact (B5W.out.grown hgrow6 B5W.out.size (fun j e => (O5.out.lt j e).1)).size | exact ((Below.then' B5W.out (bel_al1 _ _)).grown hgrow6 (Below.then' B5W.out (bel_al1 _ _)).size (fun j e => (O5.out.lt j e).1)).size
               clear hown6 hgrow6)
            | (refine step_append_optN (by rfl) (.tmp 40) (.tmp 43) 49 (by rfl) W.heap.size 3 i1 (.int .i64 0) 1 8 Try.underlying49 hi1 hy0 hy1 hy2 (by rfl) (by decide) _ (by simp [Act.eval] <;> rfl) (k + 1) (intCells (zs.take k) ++ [.int .i64 n]) O6.out _ (by simp [Act.eval] <;> rfl) _ 0 _ [] (by rfl) ⟨rfl, .inl rfl⟩ (by simp) (by unfold maxLen; omega) (by omega) hs6 ?_; intro v7 w7 hown7 hgrow7
               have O7 := Lib.hid hown7
               have B7 := Lib.hid (show Below w.heap.size w w7 from B6.out.grown hgrow7 B6.out.size (fun j e => Nat.le_trans hW0 (O6.out.lt j e).1))
               clear hown7 hgrow7))
          all_goals go_wp2
          all_goals go_ret
          all_goals
            have h := O7.out
            rw [TK.out, show intCells zs ++ [Value.int .i64 n] ++ [] = intCells (zs ++ [n]) from by simp [intCells], show k + 1 + 0 = (zs ++ [n]).length from by have := L.out; rw [List.length_append, List.length_singleton]; omega] at h
            obtain ⟨a', c', e', h', _⟩ := isInts_own h
            rw [e']
            exact ⟨⟨a', (zs ++ [n]).length, c'⟩, rfl, by rw [E.out]; exact h', B7.out, .inr (by rw [E.out]; exact e' ▸ ownsRow_base h hW0)⟩
end Go.Proofs.Ytffbljbgmgifnaa
