/- What the statement on even dice asks of the plain search, number by number: part 4. -/
import Derived.Test.YtkkholagmjcgiaaBruD
namespace Go.Proofs.Ytkkholagmjcgiaa

set_option maxRecDepth 100000 in
set_option maxHeartbeats 0 in
theorem even_8_1 : evenOk 8 1 = true := by decide +kernel
set_option maxRecDepth 100000 in
set_option maxHeartbeats 0 in
theorem even_8_2 : evenOk 8 2 = true := by decide +kernel
set_option maxRecDepth 100000 in
set_option maxHeartbeats 0 in
theorem even_8_3 : evenOk 8 3 = true := by decide +kernel
set_option maxRecDepth 100000 in
set_option maxHeartbeats 0 in
theorem even_8_4 : evenOk 8 4 = true := by decide +kernel
set_option maxRecDepth 100000 in
set_option maxHeartbeats 0 in
theorem even_8_5 : evenOk 8 5 = true := by decide +kernel
set_option maxRecDepth 100000 in
set_option maxHeartbeats 0 in
theorem even_8_6 : evenOk 8 6 = true := by decide +kernel
set_option maxRecDepth 100000 in
set_option maxHeartbeats 0 in
theorem even_8_7 : evenOk 8 7 = true := by decide +kernel
set_option maxRecDepth 100000 in
set_option maxHeartbeats 0 in
theorem even_8_8 : evenOk 8 8 = true := by decide +kernel

end Go.Proofs.Ytkkholagmjcgiaa
