/- What the statement on even dice asks of the plain search holds for all numbers from 1 to 8. -/
import Derived.Test.YtkkholagmjcgiaaBruL1
import Derived.Test.YtkkholagmjcgiaaBruL2
import Derived.Test.YtkkholagmjcgiaaBruL3
import Derived.Test.YtkkholagmjcgiaaBruL4
namespace Go.Proofs.Ytkkholagmjcgiaa

theorem even_n1 (m : Nat) (hm1 : 1 ≤ m) (hm8 : m ≤ 8) : evenOk 1 m = true := by
  match m, hm1, hm8 with
  | 1, _, _ => exact even_1_1
  | 2, _, _ => exact even_1_2
  | 3, _, _ => exact even_1_3
  | 4, _, _ => exact even_1_4
  | 5, _, _ => exact even_1_5
  | 6, _, _ => exact even_1_6
  | 7, _, _ => exact even_1_7
  | 8, _, _ => exact even_1_8
  | m + 9, _, h => omega
theorem even_n2 (m : Nat) (hm1 : 1 ≤ m) (hm8 : m ≤ 8) : evenOk 2 m = true := by
  match m, hm1, hm8 with
  | 1, _, _ => exact even_2_1
  | 2, _, _ => exact even_2_2
  | 3, _, _ => exact even_2_3
  | 4, _, _ => exact even_2_4
  | 5, _, _ => exact even_2_5
  | 6, _, _ => exact even_2_6
  | 7, _, _ => exact even_2_7
  | 8, _, _ => exact even_2_8
  | m + 9, _, h => omega
theorem even_n3 (m : Nat) (hm1 : 1 ≤ m) (hm8 : m ≤ 8) : evenOk 3 m = true := by
  match m, hm1, hm8 with
  | 1, _, _ => exact even_3_1
  | 2, _, _ => exact even_3_2
  | 3, _, _ => exact even_3_3
  | 4, _, _ => exact even_3_4
  | 5, _, _ => exact even_3_5
  | 6, _, _ => exact even_3_6
  | 7, _, _ => exact even_3_7
  | 8, _, _ => exact even_3_8
  | m + 9, _, h => omega
theorem even_n4 (m : Nat) (hm1 : 1 ≤ m) (hm8 : m ≤ 8) : evenOk 4 m = true := by
  match m, hm1, hm8 with
  | 1, _, _ => exact even_4_1
  | 2, _, _ => exact even_4_2
  | 3, _, _ => exact even_4_3
  | 4, _, _ => exact even_4_4
  | 5, _, _ => exact even_4_5
  | 6, _, _ => exact even_4_6
  | 7, _, _ => exact even_4_7
  | 8, _, _ => exact even_4_8
  | m + 9, _, h => omega
theorem even_n5 (m : Nat) (hm1 : 1 ≤ m) (hm8 : m ≤ 8) : evenOk 5 m = true := by
  match m, hm1, hm8 with
  | 1, _, _ => exact even_5_1
  | 2, _, _ => exact even_5_2
  | 3, _, _ => exact even_5_3
  | 4, _, _ => exact even_5_4
  | 5, _, _ => exact even_5_5
  | 6, _, _ => exact even_5_6
  | 7, _, _ => exact even_5_7
  | 8, _, _ => exact even_5_8
  | m + 9, _, h => omega
theorem even_n6 (m : Nat) (hm1 : 1 ≤ m) (hm8 : m ≤ 8) : evenOk 6 m = true := by
  match m, hm1, hm8 with
  | 1, _, _ => exact even_6_1
  | 2, _, _ => exact even_6_2
  | 3, _, _ => exact even_6_3
  | 4, _, _ => exact even_6_4
  | 5, _, _ => exact even_6_5
  | 6, _, _ => exact even_6_6
  | 7, _, _ => exact even_6_7
  | 8, _, _ => exact even_6_8
  | m + 9, _, h => omega
theorem even_n7 (m : Nat) (hm1 : 1 ≤ m) (hm8 : m ≤ 8) : evenOk 7 m = true := by
  match m, hm1, hm8 with
  | 1, _, _ => exact even_7_1
  | 2, _, _ => exact even_7_2
  | 3, _, _ => exact even_7_3
  | 4, _, _ => exact even_7_4
  | 5, _, _ => exact even_7_5
  | 6, _, _ => exact even_7_6
  | 7, _, _ => exact even_7_7
  | 8, _, _ => exact even_7_8
  | m + 9, _, h => omega
theorem even_n8 (m : Nat) (hm1 : 1 ≤ m) (hm8 : m ≤ 8) : evenOk 8 m = true := by
  match m, hm1, hm8 with
  | 1, _, _ => exact even_8_1
  | 2, _, _ => exact even_8_2
  | 3, _, _ => exact even_8_3
  | 4, _, _ => exact even_8_4
  | 5, _, _ => exact even_8_5
  | 6, _, _ => exact even_8_6
  | 7, _, _ => exact even_8_7
  | 8, _, _ => exact even_8_8
  | m + 9, _, h => omega
theorem even_all (n m : Nat) (hn1 : 1 ≤ n) (hn8 : n ≤ 8) (hm1 : 1 ≤ m) (hm8 : m ≤ 8) : evenOk n m = true := by
  match n, hn1, hn8 with
  | 1, _, _ => exact even_n1 m hm1 hm8
  | 2, _, _ => exact even_n2 m hm1 hm8
  | 3, _, _ => exact even_n3 m hm1 hm8
  | 4, _, _ => exact even_n4 m hm1 hm8
  | 5, _, _ => exact even_n5 m hm1 hm8
  | 6, _, _ => exact even_n6 m hm1 hm8
  | 7, _, _ => exact even_n7 m hm1 hm8
  | 8, _, _ => exact even_n8 m hm1 hm8
  | n + 9, _, h => omega

end Go.Proofs.Ytkkholagmjcgiaa
