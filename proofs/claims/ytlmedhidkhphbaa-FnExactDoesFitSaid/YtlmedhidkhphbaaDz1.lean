/- Flats and drawers: AreFlats, AreDrawers, GramsIn, DrawerOf, LooseFlats, EmptyDrawers, in the program and in the model. -/
import Derived.Test.YtlmedhidkhphbaaDs4
import Derived.Test.YtlmedhidkhphbaaDi5
namespace Go.Proofs.Ytlmedhidkhphbaa
open Go.RowKit
theorem implAreFlats_any (a : Option Addr) (len cap : Nat) (xs : List VFlat) (w : World) (h : IsFlatS w a len cap xs) :
    Calls Try.prog 30 #[.slice a len cap] w (AreFlats_Post xs w) := areFlats_any a len cap xs w h
theorem implAreDrawers_any (a : Option Addr) (len cap : Nat) (xs : List VFlat) (a1 : Option Addr) (len1 cap1 : Nat) (ds : List VDrawer) (w : World) (h : IsFlatS w a len cap xs) (h' : IsDrawerS w a1 len1 cap1 ds) :
    Calls Try.prog 32 #[.slice a len cap, .slice a1 len1 cap1] w (AreDrawers_Post xs ds w) := areDrawers_any a len cap xs a1 len1 cap1 ds w h h'
theorem LooseFlats_0_cnt (xs : List VFlat) (ds : List VDrawer) (_ : condFlat xs) (_ : condDrawer ds) : cntInt (LooseFlats_0 xs ds) ≤ 1000000 := by
  unfold LooseFlats_0 cntInt
  split
  · have := (good_iff.1 ‹_›).fl
    unfold looseL
    rw [List.length_map]
    have := List.length_filter_le (fun f : VFlat => decide (holdI ds f.Id < 0)) xs
    omega
  · simp
theorem EmptyDrawers_0_cnt (xs : List VFlat) (ds : List VDrawer) (_ : condFlat xs) (_ : condDrawer ds) : cntInt (EmptyDrawers_0 xs ds) ≤ 1000000 := by
  unfold EmptyDrawers_0 cntInt
  split
  · have := (good_iff.1 ‹_›).dl
    rw [List.length_map]
    have := List.length_filter_le (fun d : VDrawer => d.Flats.isEmpty) ds
    omega
  · simp
end Go.Proofs.Ytlmedhidkhphbaa
