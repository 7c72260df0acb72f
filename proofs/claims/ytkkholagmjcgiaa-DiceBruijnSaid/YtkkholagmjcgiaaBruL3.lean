/- What the statement on even dice asks of the plain search, number by number: part 3. -/
import Derived.Test.YtkkholagmjcgiaaBruD
namespace Go.Proofs.Ytkkholagmjcgiaa

set_option maxRecDepth 100000 in
set_option maxHeartbeats 0 in
theorem even_7_1 : evenOk 7 1 = true := by decide +kernel
set_option maxRecDepth 100000 in
set_option maxHeartbeats 0 in
theorem even_7_2 : evenOk 7 2 = true := by decide +kernel
set_option maxRecDepth 100000 in
set_option maxHeartbeats 0 in
theorem even_7_3 : evenOk 7 3 = true := by decide +kernel
set_option maxRecDepth 100000 in
set_option maxHeartbeats 0 in
theorem even_7_4 : evenOk 7 4 = true := by decide +kernel
set_option maxRecDepth 100000 in
set_option maxHeartbeats 0 in
theorem even_7_5 : evenOk 7 5 = true := by decide +kernel
set_option maxRecDepth 100000 in
set_option maxHeartbeats 0 in
theorem even_7_6 : evenOk 7 6 = true := by decide +kernel
set_option maxRecDepth 100000 in
set_option maxHeartbeats 0 in
theorem even_7_7 : evenOk 7 7 = true := by decide +kernel
set_option maxRecDepth 100000 in
set_option maxHeartbeats 0 in
theorem even_7_8 : evenOk 7 8 = true := by decide +kernel

end Go.Proofs.Ytkkholagmjcgiaa
