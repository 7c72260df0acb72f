/- Closed values of the plain functions of lamps that awake asks for. -/
import Derived.Test.YtpdgjjpfahobaaaLig10
import Derived.Test.YtpdgjjpfahobaaaPoly4
import Derived.Test.YtpdgjjpfahobaaaPoly3
import Derived.Test.YtpdgjjpfahobaaaGrid
namespace Go.Proofs.Ytpdgjjpfahobaaa
open Go.RowKit Lamp

theorem good_two : goodK (2 : Nat) [(0, 1)] 1 = true := by decide +kernel
theorem quiet_two : quietL (grL 2 [(0, 1)] true) = [3] := by decide +kernel
theorem isRef_two : isRefL (grL 2 [(0, 1)] true) 1 3 = true := by decide +kernel
theorem good_nine : goodK (9 : Nat) (gridL 3 3) (gridL 3 3).length = true := by decide +kernel
theorem few_nine : fewL (grL 9 (gridL 3 3) true) 511 = (341, true) := by decide +kernel
theorem poly_3 : polyL 3 = [0, 2] := by decide +kernel
theorem gridQ_5 : gridQ 5 5 true = 2 := by decide +kernel
theorem check_0 : checkE 0 [] = 1 := by decide +kernel
theorem grid_len : (gridL 3 3).length ≤ 1000000 := by decide +kernel
end Go.Proofs.Ytpdgjjpfahobaaa
