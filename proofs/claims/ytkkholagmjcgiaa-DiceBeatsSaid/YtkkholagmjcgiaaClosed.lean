/- Closed values of the plain functions that awake asks for. -/
import Derived.Test.YtkkholagmjcgiaaTwins
import Derived.Test.YtkkholagmjcgiaaRing
import Derived.Test.YtkkholagmjcgiaaOrders
namespace Go.Proofs.Ytkkholagmjcgiaa
open Go.RowKit Go.Shelf

def sixL : List Int := [1, 2, 3, 4, 5, 6]
def threeL : List (List Int) := [[2, 4, 9], [1, 6, 8], [3, 5, 7]]
theorem dice_six2 : checkL [sixL, sixL] = 0 := by decide +kernel
theorem dice_three : checkL threeL = 0 := by decide +kernel
theorem dice_01 : checkL [[0], [1]] = 0 := by decide +kernel
theorem check_nil : checkL [] = 10 := by decide +kernel
theorem res_six : resL [sixL, sixL] = 36 := by decide +kernel
theorem ways_six : waysF [sixL, sixL] 7 = 6 := by decide +kernel
theorem ring_three : leftL threeL ≠ [] ∧ (ringL (tbl threeL) (leftL threeL) threeL.length).length = 3 := by decide +kernel
theorem even_22 : (evenL 2 2).length = 2 := by decide +kernel
theorem chains_22 : chains 2 2 = 2 := by decide +kernel
theorem common_01 : commonL [[0], [1]] = false := by decide +kernel
theorem nums_01 : numsL [[0], [1]] (ordersL [[(0 : Int)], [1]].length) = [1, 0] := by decide +kernel
theorem twins_six : (twinsL sixL sixL).length = 3 := by decide +kernel

end Go.Proofs.Ytkkholagmjcgiaa
