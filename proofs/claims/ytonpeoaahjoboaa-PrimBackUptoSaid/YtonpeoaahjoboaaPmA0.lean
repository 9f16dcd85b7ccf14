/- What package prim makes of a tree, as data. No program. -/
import Derived.Test.YtonpeoaahjoboaaFtAD
namespace Go.Proofs.Ytonpeoaahjoboaa
open Go.RowKit Px Nx
namespace Nx
/-- The Kind of what stands at a place. -/
def kat (n : Nd) (p : List ByteArray) : UInt8 := ((n.at_ p).getD absent).kind
def takenD (n : Nd) (p : List ByteArray) : Bool := decide (p.length = 0) || openD n p
def emptyD (n : Nd) (p : List ByteArray) : Bool := decide (((n.at_ p).getD absent).kind = 2) && decide (((n.at_ p).getD absent).names.length = 0)
def fileN (s : ByteArray) : Nd := .mk 1 s [] []
def linkN (s : ByteArray) : Nd := .mk 3 s [] []
def dirN : Nd := .mk 2 ByteArray.empty [] []
/-- What a call answers, and the tree then. -/
def makeD (n : Nd) (p : List ByteArray) (y : Nd) : Int × Nd :=
  bif takenD n p then bif y.well then bif decide (kat n p = 0) then (0, putD n p y) else (6, n) else (4, n) else (5, n)
def touchD (n : Nd) (p : List ByteArray) : Int × Nd :=
  bif takenD n p then bif decide (kat n p = 3) then (5, n) else bif decide (kat n p = 0) then (0, putD n p (fileN ByteArray.empty)) else (0, n) else (5, n)
/-- c: what is wrong with what stands there (0: nothing). -/
def removeD (n : Nd) (p : List ByteArray) (c : Int) : Int × Nd :=
  bif takenD n p then bif decide (kat n p = 0) then (5, n) else bif decide (c = 0) then (0, delD n p) else (c, n) else (5, n)
def wrongDir (n : Nd) (p : List ByteArray) : Int :=
  bif decide (kat n p = 2) then bif decide (p.length = 0) || !emptyD n p then 57 else 0 else 55
def wrongFile (n : Nd) (p : List ByteArray) : Int := bif decide (kat n p = 2) then 55 else 0
def wrongAll (p : List ByteArray) : Int := bif decide (p.length = 0) then 57 else 0
/-- What is wrong with a place to which something is moved; k: is it a directory that is moved. -/
def givesD (n : Nd) (q : List ByteArray) (k : Bool) : Int :=
  bif decide (kat n q = 0) then 0 else bif decide (kat n q = 2) != k then 55 else bif decide (kat n q = 2) && !emptyD n q then 57 else 0
def overD (n : Nd) (q : List ByteArray) (k : Bool) : Int :=
  bif decide (kat n q = 0) then 0 else bif k then 6 else bif decide (kat n q = 1) then 0 else 55
def renameD (n : Nd) (p q : List ByteArray) : Int × Nd :=
  bif takenD n p && takenD n q then
    bif decide (kat n p = 0) then (5, n) else bif decide (p = q) then (6, n) else bif decide (p.length = 0) then (57, n) else bif underL p q then (58, n) else
      bif decide (givesD n q (decide (kat n p = 2)) = 0) then (0, moveD n p q) else (givesD n q (decide (kat n p = 2)), n)
  else (5, n)
def copyingD (n : Nd) (p q : List ByteArray) (deep : Bool) : Int × Nd :=
  bif takenD n p && takenD n q then
    bif decide (kat n p = 0) then (5, n) else bif decide (p = q) then (6, n) else bif decide (kat n p = 2) && !deep then (55, n) else bif underL p q then (58, n) else
      bif decide (overD n q (decide (kat n p = 2)) = 0) then (0, copyD n p q) else (overD n q (decide (kat n p = 2)), n)
  else (5, n)
end Nx

end Go.Proofs.Ytonpeoaahjoboaa
