/- What the statement on even dice asks of the plain search, number by number: part 2. -/
import Derived.Test.YtkkholagmjcgiaaBruD
namespace Go.Proofs.Ytkkholagmjcgiaa

set_option maxRecDepth 100000 in
set_option maxHeartbeats 0 in
theorem even_5_1 : evenOk 5 1 = true := by decide +kernel
set_option maxRecDepth 100000 in
set_option maxHeartbeats 0 in
theorem even_5_2 : evenOk 5 2 = true := by decide +kernel
set_option maxRecDepth 100000 in
set_option maxHeartbeats 0 in
theorem even_5_3 : evenOk 5 3 = true := by decide +kernel
set_option maxRecDepth 100000 in
set_option maxHeartbeats 0 in
theorem even_5_4 : evenOk 5 4 = true := by decide +kernel
set_option maxRecDepth 100000 in
set_option maxHeartbeats 0 in
theorem even_5_5 : evenOk 5 5 = true := by decide +kernel
set_option maxRecDepth 100000 in
set_option maxHeartbeats 0 in
theorem even_5_6 : evenOk 5 6 = true := by decide +kernel
set_option maxRecDepth 100000 in
set_option maxHeartbeats 0 in
theorem even_5_7 : evenOk 5 7 = true := by decide +kernel
set_option maxRecDepth 100000 in
set_option maxHeartbeats 0 in
theorem even_5_8 : evenOk 5 8 = true := by decide +kernel
set_option maxRecDepth 100000 in
set_option maxHeartbeats 0 in
theorem even_6_1 : evenOk 6 1 = true := by decide +kernel
set_option maxRecDepth 100000 in
set_option maxHeartbeats 0 in
theorem even_6_2 : evenOk 6 2 = true := by decide +kernel
set_option maxRecDepth 100000 in
set_option maxHeartbeats 0 in
theorem even_6_3 : evenOk 6 3 = true := by decide +kernel
set_option maxRecDepth 100000 in
set_option maxHeartbeats 0 in
theorem even_6_4 : evenOk 6 4 = true := by decide +kernel
set_option maxRecDepth 100000 in
set_option maxHeartbeats 0 in
theorem even_6_5 : evenOk 6 5 = true := by decide +kernel
set_option maxRecDepth 100000 in
set_option maxHeartbeats 0 in
theorem even_6_6 : evenOk 6 6 = true := by decide +kernel
set_option maxRecDepth 100000 in
set_option maxHeartbeats 0 in
theorem even_6_7 : evenOk 6 7 = true := by decide +kernel
set_option maxRecDepth 100000 in
set_option maxHeartbeats 0 in
theorem even_6_8 : evenOk 6 8 = true := by decide +kernel

end Go.Proofs.Ytkkholagmjcgiaa
