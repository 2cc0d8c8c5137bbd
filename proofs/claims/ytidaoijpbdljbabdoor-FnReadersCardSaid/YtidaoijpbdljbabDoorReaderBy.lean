/- Is a list at most so long, each element valid, all in strictly ascending order of a number? The program's isListById at Reader. (made by genby.py) -/
import Derived.Test.YtidaoijpbdljbabDoorReaderT
import Derived.Test.YtidaoijpbdljbabDoorSw
namespace Go.Proofs.YtidaoijpbdljbabDoor
open Go.RowKit

set_option maxHeartbeats 12800000 in
set_option maxRecDepth 100000 in
theorem byReader_any (K1 K2 : FuncId) (ok : VReader → Bool) (id : VReader → Int) (limit : Int) (a : Option Addr) (len cap : Nat) (xs : List VReader) (w : World) (h : IsReaderS w a len cap xs)
    (hc1 : ∀ args W, (callFunc K1 args).run Tryd.prog W = .ok (.enter K1 args) W) (hc2 : ∀ args W, (callFunc K2 args).run Tryd.prog W = .ok (.enter K2 args) W)
    (h1 : ∀ (W : World) (s : VReader), s ∈ xs → s.small → Calls Tryd.prog K1 #[.agg #[.int .i64 s.Id, .string s.Name, .int .i64 s.Joined, .int .i64 s.Class, .int .i64 s.Fines]] W fun e w' => e = .returned (.bool (ok s)) ∧ Below W.heap.size W w')
    (h2 : ∀ (W : World) (s : VReader), Calls Tryd.prog K2 #[.agg #[.int .i64 s.Id, .string s.Name, .int .i64 s.Joined, .int .i64 s.Class, .int .i64 s.Fines]] W fun e w' => e = .returned (.int .i64 (id s)) ∧ Below W.heap.size W w') :
    Calls Tryd.prog 58 #[.slice a len cap, .int .i64 limit, .func (.func K1) #[] #[], .func (.func K2) #[] #[]] w fun e w' => e = .returned (.bool (upB ok id xs && decide ((xs.length : Int) ≤ limit))) ∧ Below w.heap.size w w' := by
  have hm := h.2.2.1
  have hcl := h.2.1
  unfold maxLen at hm
  have S := Lib.hid h
  have L := Lib.hid h.1
  have F1 := Lib.hid h1
  have F2 := Lib.hid h2
  clear h h1 h2
  by_cases hl : limit < (len : Int)
  · go_enter Tryd.func58, Tryd.ntmps58
    go_wp2
    go_ret
    exact ⟨ret_bool (by have e := L.out; rw [decide_eq_false (by omega)]; simp), Below.refl _ _⟩
  go_enter Tryd.func58, Tryd.ntmps58
  go_wp2
  go_loopw [17] (fun i wr => ∃ k : Nat, k ≤ len ∧ i = .int .i64 k ∧ Below w.heap.size w wr ∧ ∀ j, j < k → upStep ok id xs j = true) (fun i _ => len - (intOf i).toNat)
  case atStart => exact ⟨0, Nat.zero_le _, rfl, Below.refl _ _, by omega⟩
  case round =>
    obtain ⟨k, hk, rfl, hbel, hall⟩ := hrel
    have A := Lib.hid hall
    have B := Lib.hid hbel
    clear hall
    by_cases hlt : k < len
    · obtain ⟨s, hs⟩ := el_at L hlt
      obtain ⟨b, o, rfl, hb, hat⟩ := (S.out.below hbel).at (by omega)
      obtain ⟨c0, c1, c2, c3, c4, hsm⟩ := hat k s hs
      have SM := Lib.hid hsm
      clear hsm
      have AT := Lib.hid hat
      have K := Lib.hid hs
      clear hs hat hbel
      go_wp2
      refine wp_world (fun W => BoxReader W wr.heap.size s ∧ Below wr.heap.size wr W) ⟨BoxReader.new _ _ s _ rfl, bel_al1 _ _⟩ ?_
      rintro W ⟨hbox, hbw⟩
      have BW := Lib.hid hbw
      obtain ⟨e0, e1, e2, e3, e4⟩ := hbox
      clear c0 c1 c2 c3 c4 hbw
      have k0 := cell_regrown e0
      have k1 := cell_regrown e1
      have k2 := cell_regrown e2
      have k3 := cell_regrown e3
      have k4 := cell_regrown e4
      clear e0 e1 e2 e3 e4
      have hi0 : (0 : Int) ≤ (k : Int) := by omega
      have hi1 : (k : Int) < (len : Int) := by omega
      rcases up_ways (ok := ok) (id := id) K.out with ⟨h1, h2⟩ | ⟨h1, rfl, h2⟩ | ⟨h1, j, p, rfl, hp, h2⟩
      · have cQ := below_at (W := W) (fun W' hbW => h1 ▸ F1.out W' s (List.mem_of_getElem? K.out) SM.out)
        have Z := Lib.hid h2
        clear h1 h2
        refine wp_region_quiet_below (by kernel_rfl) (by kernel_rfl) ?_
        repeat (first | go_big_quiet_step (first | (with_reducible exact cQ _ _)) | quiet_step (first | (with_reducible exact cQ _ _)))
        refine wpQuiet_nil ?_
        intro W2 hw2
        have B2 := Lib.hid (Below.then' (Below.then' B.out BW.out) (below_of_re hw2))
        clear hw2 cQ k0 k1 k2 k3 k4
        go_wp2
        go_ret
        exact ⟨ret_bool (by rw [upB_bad Z.out (by have := L.out; omega)]; rfl), B2.out⟩
      · have cQ := below_at (W := W) (fun W' hbW => h1 ▸ F1.out W' s (List.mem_of_getElem? K.out) SM.out)
        have Z := Lib.hid h2
        clear h1 h2
        refine wp_region_quiet_below (by kernel_rfl) (by kernel_rfl) ?_
        repeat (first | go_big_quiet_step (first | (with_reducible exact cQ _ _)) | quiet_step (first | (with_reducible exact cQ _ _)))
        refine wpQuiet_nil ?_
        intro W2 hw2
        have B2 := Lib.hid (Below.then' (Below.then' B.out BW.out) (below_of_re hw2))
        clear hw2 cQ k0 k1 k2 k3 k4
        go_wp2
        go_roundw
        case rel => exact ⟨1, by omega, by go_num, B2.out, all_more A.out Z.out⟩
        case measure => simp [intOf]; omega
      · have cQ := below_at (W := W) (fun W' hbW => h1 ▸ F1.out W' s (List.mem_of_getElem? K.out) SM.out)
        obtain ⟨p0, p1, p2, p3, p4, _⟩ := (AT.out j p hp).below BW.out hb
        have q0 := cell_regrown p0
        have q1 := cell_regrown p1
        have q2 := cell_regrown p2
        have q3 := cell_regrown p3
        have q4 := cell_regrown p4
        clear p0 p1 p2 p3 p4
        obtain ⟨u, hu⟩ : ∃ u, id p = u := ⟨_, rfl⟩
        obtain ⟨v, hv⟩ : ∃ v, id s = v := ⟨_, rfl⟩
        rw [hu, hv] at h2
        have cP := below_at (W := W) (fun W' _ => hu ▸ F2.out W' p)
        have cS := below_at (W := W) (fun W' _ => hv ▸ F2.out W' s)
        have hp0 : (0 : Int) ≤ (j : Int) := by omega
        have hp1 : (j : Int) < (len : Int) := by omega
        clear h1 hp hu hv
        rcases h2 with ⟨h2, h3⟩ | ⟨h2, h3⟩
        · have Z := Lib.hid h3
          clear h3
          refine wp_region_quiet_below (by kernel_rfl) (by kernel_rfl) ?_
          repeat (first | go_big_quiet_step (first | (with_reducible exact cQ _ _) | (with_reducible exact cP _ _) | (with_reducible exact cS _ _)) | quiet_step (first | (with_reducible exact cQ _ _) | (with_reducible exact cP _ _) | (with_reducible exact cS _ _)))
          refine wpQuiet_nil ?_
          intro W2 hw2
          have B2 := Lib.hid (Below.then' (Below.then' B.out BW.out) (below_of_re hw2))
          clear hw2 cQ cP cS k0 k1 k2 k3 k4 q0 q1 q2 q3 q4
          go_wp2
          go_roundw
          case rel => exact ⟨j + 1 + 1, by omega, by go_num, B2.out, all_more A.out Z.out⟩
          case measure => simp [intOf]; omega
        · have Z := Lib.hid h3
          clear h3
          refine wp_region_quiet_below (by kernel_rfl) (by kernel_rfl) ?_
          repeat (first | go_big_quiet_step (first | (with_reducible exact cQ _ _) | (with_reducible exact cP _ _) | (with_reducible exact cS _ _)) | quiet_step (first | (with_reducible exact cQ _ _) | (with_reducible exact cP _ _) | (with_reducible exact cS _ _)))
          refine wpQuiet_nil ?_
          intro W2 hw2
          have B2 := Lib.hid (Below.then' (Below.then' B.out BW.out) (below_of_re hw2))
          clear hw2 cQ cP cS k0 k1 k2 k3 k4 q0 q1 q2 q3 q4
          go_wp2
          go_ret
          exact ⟨ret_bool (by rw [upB_bad Z.out (by have := L.out; omega)]; rfl), B2.out⟩
    · obtain rfl : k = len := by omega
      have U := Lib.hid (show (upB ok id xs && decide ((xs.length : Int) ≤ limit)) = true from by
        rw [upB_iff.2 (fun i hi => A.out i (by have := L.out; omega)), decide_eq_true (by have := L.out; omega)]; rfl)
      clear hbel
      go_wp2
      go_ret
      exact ⟨ret_bool U.out.symm, B.out⟩
end Go.Proofs.YtidaoijpbdljbabDoor
