/- Roads in the program: turned around. -/
import Derived.Test.YtpnaciamnigbnaaRoi1
import Derived.Test.YtpnaciamnigbnaaRrev
import Derived.Test.YtpnaciamnigbnaaReverseRoadP
namespace Go.Proofs.Ytpnaciamnigbnaa
open Go.RowKit

set_option maxHeartbeats 3200000 in
set_option maxRecDepth 100000 in
theorem implReverseRoad_any (a : Option Addr) (len cap : Nat) (xs : List VCorner) (w : World) (h : IsCornerS w a len cap xs) :
    Calls Try.prog 74 #[.slice a len cap] w (ReverseRoad_Post xs w) := by
  have S := Lib.hid h
  clear h
  obtain ⟨q, hq⟩ : ∃ q, roadB xs = q := ⟨_, rfl⟩
  have Q := Lib.hid hq
  clear hq
  go_enter Try.func74, Try.ntmps74
  go_wp2_with fail
  refine (isRoad_any _ _ _ xs _ S.out).mono ?_
  rintro e w1 ⟨rfl, hb⟩
  rw [Q.out]
  have B1 := Lib.hid hb
  clear hb
  cases q
  · have F0 := Lib.hid (show ReverseRoad_0 xs = [] from by unfold ReverseRoad_0; rw [Q.out]; rfl)
    have F1 := Lib.hid (show ReverseRoad_1 xs = false from Q.out)
    go_wp2
    go_ret2
    exact ⟨_, by rw [F1.out]; rfl, by rw [F0.out]; exact nil_OwnCornerS _ _ _, B1.out⟩
  have R := Lib.hid (road_iff.1 Q.out)
  have l2 := R.out.l2
  have l12 := R.out.l12
  have F0 := Lib.hid (show ReverseRoad_0 xs = xs.reverse from by unfold ReverseRoad_0; rw [Q.out]; rfl)
  have F1 := Lib.hid (show ReverseRoad_1 xs = true from Q.out)
  go_wp2_with fail
  refine (cloneCorner_any _ _ _ xs _ (S.out.below B1.out) (by omega)).mono ?_
  rintro e w2 ⟨v, rfl, hown, hb⟩
  have B2 := Lib.hid (Below.then' B1.out hb)
  have s1 := B1.out.size
  obtain ⟨g, c, cur, hv, hg, _, _, _, _, _⟩ : ∃ g cap cur, v = .slice (some ⟨g, 0, none⟩) xs.length cap ∧ w1.heap.size ≤ g ∧ w2.heap[g]? = some (.cells cur 103 (0, 0)) ∧ xs.length ≤ cap ∧ cap ≤ maxLen ∧ cur.size = cap * 2 ∧ True := by
    rcases hown.2 with ⟨_, h0⟩ | ⟨g, cap, cur, h1, h2, h3, h4, h5, h6, _⟩
    · omega
    · exact ⟨g, cap, cur, h1, h2, h3, h4, h5, h6, trivial⟩
  subst hv
  have O := Lib.hid hown
  have HG := Lib.hid hg
  clear hb hown hg
  go_wp2_with fail
  refine (revCorner_any _ g c xs _ O.out (by omega)).mono ?_
  rintro e w3 ⟨rfl, hown, hgr⟩
  have B3 := Lib.hid (B2.out.grown hgr B2.out.size (fun k e => by cases e; have := HG.out; omega))
  have OO := Lib.hid (show OwnCornerS w.heap.size w3.heap.size w3 (.slice (some ⟨g, 0, none⟩) xs.length c) xs.reverse from by
    have h := OwnIn.of_row (lo := w1.heap.size) (hi := w3.heap.size) hown (Nat.le_refl _) (Nat.le_refl _)
    have h2 := OwnIn.mono h s1 (Nat.le_refl _)
    unfold OwnCornerS
    rw [List.length_reverse]
    exact h2)
  clear hown hgr
  go_wp2
  go_ret2
  exact ⟨_, by rw [F1.out]; rfl, by rw [F0.out]; exact OO.out, B3.out⟩
end Go.Proofs.Ytpnaciamnigbnaa
