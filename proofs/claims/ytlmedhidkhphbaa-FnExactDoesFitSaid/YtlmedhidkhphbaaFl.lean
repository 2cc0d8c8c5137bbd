/- Drawers and flats: when they are valid and right; what is put, taken, found and stored. Plain mathematics. -/
import Derived.Test.YtlmedhidkhphbaaFlatT
import Derived.Test.YtlmedhidkhphbaaDrawerT
import Derived.Test.YtlmedhidkhphbaaSheet
import Derived.Test.YtlmedhidkhphbaaUp2
import Derived.Test.YtlmedhidkhphbaaLawsR
namespace Go.Proofs.Ytlmedhidkhphbaa

def sumI : List Int → Int
  | [] => 0
  | x :: l => x + sumI l
theorem sumI_app (a b : List Int) : sumI (a ++ b) = sumI a + sumI b := by
  induction a with
  | nil => simp [sumI]
  | cons x l ih => simp [sumI, ih]; omega

theorem find_first {α : Type} (f : α → Bool) (xs : List α) : (firstOf f xs = -1 ∧ xs.find? f = none) ∨ ∃ (i : Nat) (s : α), firstOf f xs = (i : Int) ∧ xs[i]? = some s ∧ xs.find? f = some s ∧ f s = true := by
  induction xs with
  | nil => exact .inl ⟨rfl, rfl⟩
  | cons x l ih =>
    by_cases h : f x = true
    · exact .inr ⟨0, x, by simp [firstOf, h], rfl, by simp [h], h⟩
    · have h' : f x = false := by simpa using h
      rcases ih with ⟨h1, h2⟩ | ⟨i, s, h1, h2, h3, h4⟩
      · exact .inl ⟨by simp [firstOf, h', h1], by simp [h', h2]⟩
      · exact .inr ⟨i + 1, s, by simp [firstOf, h', h1]; omega, h2, by simp [h', h3], h4⟩

def VFlat.ok (f : VFlat) : Bool := inB f.Id 1 999 && (inB f.Wide 10 2000 && (inB f.High 10 2000 && inB f.Grams 1 5000))
def flatsB (fs : List VFlat) : Bool := upB VFlat.ok VFlat.Id fs && decide (fs.length ≤ 20)
def idOk (z : Int) : Bool := inB z 1 999
def idsB (zs : List Int) : Bool := upB idOk (fun z => z) zs && decide (zs.length ≤ 12)
def VDrawer.ok (d : VDrawer) : Bool := inB d.Id 1 99 && (inB d.Wide 100 2000 && (inB d.High 100 2000 && (inB d.Holds 100 50000 && idsB d.Flats)))
def fitsB (f : VFlat) (d : VDrawer) : Bool := (decide (f.Wide ≤ d.Wide) && decide (f.High ≤ d.High)) || (decide (f.High ≤ d.Wide) && decide (f.Wide ≤ d.High))
def flatI (fs : List VFlat) (id : Int) : Int := firstOf (fun f => f.Id == id) fs
def flatOf (fs : List VFlat) (id : Int) : Option VFlat := fs.find? fun f => f.Id == id
def drawI (ds : List VDrawer) (id : Int) : Int := firstOf (fun d => d.Id == id) ds
def holdI (ds : List VDrawer) (id : Int) : Int := firstOf (fun d => hasB id d.Flats) ds
def gramsL (fs : List VFlat) (ids : List Int) : Int := sumI ((fs.filter fun f => hasB f.Id ids).map VFlat.Grams)
def fitsId (fs : List VFlat) (d : VDrawer) (id : Int) : Bool := match flatOf fs id with | none => false | some f => fitsB f d
def rightB (fs : List VFlat) (d : VDrawer) : Bool := d.Flats.all (fitsId fs d) && decide (gramsL fs d.Flats ≤ d.Holds)
def apartB (ds : List VDrawer) (i : Nat) (d : VDrawer) : Bool := d.Flats.all fun id => decide (holdI (ds.take i) id < 0)
def rightAt (fs : List VFlat) (ds : List VDrawer) (i : Nat) : Bool := match ds[i]? with | none => true | some d => rightB fs d && apartB ds i d
def listB (ds : List VDrawer) : Bool := upB VDrawer.ok VDrawer.Id ds && decide (ds.length ≤ 8)
def goodB (fs : List VFlat) (ds : List VDrawer) : Bool := flatsB fs && (listB ds && (List.range ds.length).all (rightAt fs ds))
def insAt (n : Int) (zs : List Int) : List Int := zs.takeWhile (fun z => decide (z < n)) ++ n :: zs.dropWhile (fun z => decide (z < n))
def withF (d : VDrawer) (zs : List Int) : VDrawer := { d with Flats := zs }
def setF (ds : List VDrawer) (i : Nat) (g : List Int → List Int) : List VDrawer := match ds[i]? with | none => ds | some d => ds.set i (withF d (g d.Flats))
def putAt (ds : List VDrawer) (i : Nat) (flat : Int) : List VDrawer := setF ds i (insAt flat)
def looseB (fs : List VFlat) (ds : List VDrawer) (flat : Int) : Bool := goodB fs ds && (decide (0 ≤ flatI fs flat) && decide (holdI ds flat < 0))
def putB (fs : List VFlat) (ds : List VDrawer) (flat id : Int) : Bool := looseB fs ds flat && (decide (0 ≤ drawI ds id) && goodB fs (putAt ds (drawI ds id).toNat flat))

def AreFlats_0 (fs : List VFlat) : Bool := flatsB fs
def AreDrawers_0 (fs : List VFlat) (ds : List VDrawer) : Bool := goodB fs ds
def DoesFit_1 (f : VFlat) (d : VDrawer) : Bool := f.ok && d.ok
def DoesFit_0 (f : VFlat) (d : VDrawer) : Bool := DoesFit_1 f d && fitsB f d
def GramsIn_1 (fs : List VFlat) (ds : List VDrawer) (id : Int) : Bool := goodB fs ds && decide (0 ≤ drawI ds id)
def GramsIn_0 (fs : List VFlat) (ds : List VDrawer) (id : Int) : Int := if GramsIn_1 fs ds id then (match ds.find? (fun d => d.Id == id) with | none => 0 | some d => gramsL fs d.Flats) else 0
def DrawerOf_1 (fs : List VFlat) (ds : List VDrawer) (flat : Int) : Bool := goodB fs ds && decide (0 ≤ flatI fs flat)
def DrawerOf_0 (fs : List VFlat) (ds : List VDrawer) (flat : Int) : Int := if DrawerOf_1 fs ds flat then (match ds.find? (fun d => hasB flat d.Flats) with | none => 0 | some d => d.Id) else 0
def PutFlat_1 (fs : List VFlat) (ds : List VDrawer) (flat id : Int) : Bool := putB fs ds flat id
def PutFlat_0 (fs : List VFlat) (ds : List VDrawer) (flat id : Int) : List VDrawer := if putB fs ds flat id then putAt ds (drawI ds id).toNat flat else []
def without (flat : Int) (zs : List Int) : List Int := zs.filter fun z => !(z == flat)
def TakeFlat_1 (fs : List VFlat) (ds : List VDrawer) (flat : Int) : Bool := goodB fs ds && decide (0 ≤ holdI ds flat)
def TakeFlat_0 (fs : List VFlat) (ds : List VDrawer) (flat : Int) : List VDrawer := if TakeFlat_1 fs ds flat then setF ds (holdI ds flat).toNat (without flat) else []
def DrawersFor_1 (fs : List VFlat) (ds : List VDrawer) (flat : Int) : Bool := looseB fs ds flat
def DrawersFor_0 (fs : List VFlat) (ds : List VDrawer) (flat : Int) : List Int := if looseB fs ds flat then (ds.filter fun d => putB fs ds flat d.Id).map VDrawer.Id else []
def areaD (ds : List VDrawer) (id : Int) : Int := match ds.find? (fun d => d.Id == id) with | none => 0 | some d => d.Wide * d.High
/-- The first least one by a number. -/
def leastBy (f : Int → Int) : List Int → Int → Int
  | [], b => b
  | x :: l, b => leastBy f l (if f x < f b then x else b)
def TightestFor_0 (fs : List VFlat) (ds : List VDrawer) (flat : Int) : Int := match DrawersFor_0 fs ds flat with | [] => 0 | x :: l => leastBy (areaD ds) l x
def TightestFor_1 (fs : List VFlat) (ds : List VDrawer) (flat : Int) : Bool := !(DrawersFor_0 fs ds flat).isEmpty
def looseL (fs : List VFlat) (ds : List VDrawer) : List Int := (fs.filter fun f => decide (holdI ds f.Id < 0)).map VFlat.Id
def LooseFlats_1 (fs : List VFlat) (ds : List VDrawer) : Bool := goodB fs ds
def LooseFlats_0 (fs : List VFlat) (ds : List VDrawer) : List Int := if goodB fs ds then looseL fs ds else []
def EmptyDrawers_1 (fs : List VFlat) (ds : List VDrawer) : Bool := goodB fs ds
def EmptyDrawers_0 (fs : List VFlat) (ds : List VDrawer) : List Int := if goodB fs ds then (ds.filter fun d => d.Flats.isEmpty).map VDrawer.Id else []
/-- One flat is stored, if it can be. -/
def storeF (fs : List VFlat) (ds : List VDrawer) (f : VFlat) : List VDrawer := if TightestFor_1 fs ds f.Id then PutFlat_0 fs ds f.Id (TightestFor_0 fs ds f.Id) else ds
def areaF (f : VFlat) : Int := f.Wide * f.High
/-- f is put into a row: behind those that are not less. -/
def insF (f : VFlat) : List VFlat → List VFlat
  | [] => [f]
  | x :: l => if areaF x < areaF f then f :: x :: l else x :: insF f l
def orderF (fs : List VFlat) : List VFlat := fs.foldl (fun l f => insF f l) []
def storedL (fs : List VFlat) (ds : List VDrawer) : List VDrawer := (orderF (fs.filter fun f => decide (holdI ds f.Id < 0))).foldl (storeF fs) ds
def StoreAll_2 (fs : List VFlat) (ds : List VDrawer) : Bool := goodB fs ds
def StoreAll_0 (fs : List VFlat) (ds : List VDrawer) : List VDrawer := if goodB fs ds then storedL fs ds else []
def StoreAll_1 (fs : List VFlat) (ds : List VDrawer) : List Int := if goodB fs ds then looseL fs (storedL fs ds) else []
end Go.Proofs.Ytlmedhidkhphbaa
