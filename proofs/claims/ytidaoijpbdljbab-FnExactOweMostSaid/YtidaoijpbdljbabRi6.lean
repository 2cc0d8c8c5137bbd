/- Readers in the program: who joins. -/
import Derived.Test.YtidaoijpbdljbabRi5
import Derived.Test.YtidaoijpbdljbabAppL2
import Derived.Test.YtidaoijpbdljbabRd8
namespace Go.Proofs.Ytidaoijpbdljbab
open Go.RowKit

theorem areRd_prefix {xs ys : List VReader} (h : areRd (xs ++ ys) = true) : areRd xs = true := by
  unfold areRd rdUp at *
  simp only [Bool.and_eq_true, decide_eq_true_eq, List.length_append] at *
  exact ⟨upB_prefix h.1, by omega⟩
theorem cell_drew (W : World) (p : Addr) : W.drew.cell? p = W.cell? p := rfl
theorem after_draw {W w1 : World} (h : Below W.drew.heap.size W.drew w1) : Below W.heap.size W w1 := Below.then' (bel_drawn W 1) h
theorem after_draw_al {W w1 : World} {o : Obj} (h : Below (W.drew.alloc o).heap.size (W.drew.alloc o) w1) : Below W.heap.size W w1 := Below.then' (Below.then' (bel_drawn W 1) (bel_al1 W.drew o)) h
theorem new_Reader {W w1 : World} {s : VReader} (hb : Below (W.alloc (.cells #[.int .i64 s.Id, .string s.Name, .int .i64 s.Joined, .int .i64 s.Class, .int .i64 s.Fines] 81)).drew.heap.size (W.alloc (.cells #[.int .i64 s.Id, .string s.Name, .int .i64 s.Joined, .int .i64 s.Class, .int .i64 s.Fines] 81)).drew w1) : ∀ j u, s.vals[j]? = some u → w1.cell? ((⟨W.heap.size, 0, none⟩ : Addr).add j) = some u := fun j u hj =>
  ((Below.cell (p := (⟨W.heap.size, 0, none⟩ : Addr).add j) hb (by rw [add_plain]; exact (show W.heap.size < (W.alloc (.cells #[.int .i64 s.Id, .string s.Name, .int .i64 s.Joined, .int .i64 s.Class, .int .i64 s.Fines] 81)).heap.size by rw [size_al]; exact Nat.lt_succ_self _))).trans (cell_drew _ _)).trans (cell_Reader W s 81 j u hj)
end Go.Proofs.Ytidaoijpbdljbab
