/-
  A region that draws its order, whose callees make memory: walked once.
-/
import Derived.Test.YtlggckfjhfbjkaaC
namespace Go.Proofs.Ytlggckfjhfbjkaa
open Go.ChangeShapes Go.WideShapes Go.ChangeAt Go.RowKit
theorem region_below {P : Program} {id : Nat} {Q : Exit → Act → World → Prop} {a : Act} {w : World} {l : List Oper} (hm : P.follows .mixedOrders = true) (hB : Region.lexB .any l.toArray = true)
    (h : wpQuiet P l.toArray (Below w.heap.size w) (fun a' => ∀ w', Below w.heap.size w w' → Q .normal a' w') l a) : (Code.region id l.toArray true).wp P Q a w :=
  wp_region_quiet (C := Below w.heap.size w) hm hB (Below.drew (Below.refl _ w)) (by simpa using h)
end Go.Proofs.Ytlggckfjhfbjkaa
