/- What the statement on even dice asks of the plain search. -/
import Derived.Test.YtkkholagmjcgiaaTwins
namespace Go.Proofs.Ytkkholagmjcgiaa

/-- Each sum below a bound comes up in one way. -/
def oneEach (x y : List Int) (k : Nat) : Bool := (List.range k).all fun s => waysF [x, y] (s : Int) == 1
def pairOk (n m : Nat) (u : List (List Int × List Int)) (p : List Int × List Int) : Bool :=
  p.1.length == n && p.2.length == m && oneEach p.1 p.2 (n * m) && p.1.getD 0 0 == 0 && p.2.getD 0 0 == 0 && p.1.getD (n - 1) 0 + p.2.getD (m - 1) 0 == (n : Int) * m - 1 &&
  u.any (fun q => q.1 == p.2 && q.2 == p.1) && checkL [p.1, p.2] == 0
def evenOk (n m : Nat) : Bool := (evenL n m).length == chains n m && (evenL m n).length == (evenL n m).length && (evenL n m).all (pairOk n m (evenL m n))

end Go.Proofs.Ytkkholagmjcgiaa
