/- The error exits of the functions of package light: what is no graph, or no set, gives the error and zero values. -/
import Derived.Test.YtpdgjjpfahobaaaLig10
import Derived.Test.YtpdgjjpfahobaaaLig7
namespace Go.Proofs.Ytpdgjjpfahobaaa
open Go.RowKit Lamp

section
variable (A : Option Addr) (n : Int) (l : List (Int × Int)) (c : Nat) (own : Bool) (w : World) (hr : REdges w w.heap.size A l) (hl : l.length ≤ 1000000) {E : Nat} (hne : E ≠ 0)
include hr hl hne

theorem Quiet_bad (hE : checkS n l [] = (E : Int)) :
    Calls Try.prog 24 #[.int .i64 n, .slice A l.length c, .bool own] w fun e w' => e = .returned (.tuple #[.slice none 0 0, .int .i64 (E : Int)]) ∧ Below w.heap.size w w' := by
  have HK := Lib.hid (check0 A n l c w hr hl)
  have HE := Lib.hid hE
  have hn1 : ((E : Int) == 0) = false := by rw [beq_eq_false_iff_ne]; omega
  have hn2 : ((E : Int) != 0) = true := by simp only [bne, hn1, Bool.not_false]
  clear hr hl hE hne
  go_enter Try.func24, Try.ntmps24
  go_wp2_with fail
  refine HK.out.mono ?_
  rintro e w1 ⟨rfl, hb1⟩
  rw [HE.out]
  have HB1 := Lib.hid hb1
  clear hb1
  go_wp2_with fail
  go_ret2
  exact ⟨rfl, HB1.out⟩
theorem Reachable_bad (hE : checkS n l [] = (E : Int)) :
    Calls Try.prog 25 #[.int .i64 n, .slice A l.length c, .bool own] w fun e w' => e = .returned (.tuple #[.int .i64 0, .int .i64 (E : Int)]) ∧ Below w.heap.size w w' := by
  have HK := Lib.hid (check0 A n l c w hr hl)
  have HE := Lib.hid hE
  have hn1 : ((E : Int) == 0) = false := by rw [beq_eq_false_iff_ne]; omega
  have hn2 : ((E : Int) != 0) = true := by simp only [bne, hn1, Bool.not_false]
  clear hr hl hE hne
  go_enter Try.func25, Try.ntmps25
  go_wp2_with fail
  refine HK.out.mono ?_
  rintro e w1 ⟨rfl, hb1⟩
  rw [HE.out]
  have HB1 := Lib.hid hb1
  clear hb1
  go_wp2_with fail
  go_ret2
  exact ⟨rfl, HB1.out⟩
theorem Hardest_bad (hE : checkS n l [] = (E : Int)) :
    Calls Try.prog 26 #[.int .i64 n, .slice A l.length c, .bool own] w fun e w' => e = .returned (.tuple #[.int .i64 0, .int .i64 0, .int .i64 (E : Int)]) ∧ Below w.heap.size w w' := by
  have HK := Lib.hid (check0 A n l c w hr hl)
  have HE := Lib.hid hE
  have hn1 : ((E : Int) == 0) = false := by rw [beq_eq_false_iff_ne]; omega
  have hn2 : ((E : Int) != 0) = true := by simp only [bne, hn1, Bool.not_false]
  clear hr hl hE hne
  go_enter Try.func26, Try.ntmps26
  go_wp2_with fail
  refine HK.out.mono ?_
  rintro e w1 ⟨rfl, hb1⟩
  rw [HE.out]
  have HB1 := Lib.hid hb1
  clear hb1
  go_wp2_with fail
  go_ret3
  exact ⟨rfl, HB1.out⟩
theorem Effect_bad (x : Int) (hE : checkS n l [x] = (E : Int)) :
    Calls Try.prog 27 #[.int .i64 n, .slice A l.length c, .bool own, .int .i64 x] w fun e w' => e = .returned (.tuple #[.int .i64 0, .int .i64 (E : Int)]) ∧ Below w.heap.size w w' := by
  have HK := Lib.hid (check1 A n x l c w hr hl)
  have HE := Lib.hid hE
  have hn1 : ((E : Int) == 0) = false := by rw [beq_eq_false_iff_ne]; omega
  have hn2 : ((E : Int) != 0) = true := by simp only [bne, hn1, Bool.not_false]
  clear hr hl hE hne
  go_enter Try.func27, Try.ntmps27
  go_wp2_with fail
  refine HK.out.mono ?_
  rintro e w1 ⟨rfl, hb1⟩
  rw [HE.out]
  have HB1 := Lib.hid hb1
  clear hb1
  go_wp2_with fail
  go_ret2
  exact ⟨rfl, HB1.out⟩
theorem Solve_bad (x : Int) (hE : checkS n l [x] = (E : Int)) :
    Calls Try.prog 28 #[.int .i64 n, .slice A l.length c, .bool own, .int .i64 x] w fun e w' => e = .returned (.tuple #[.int .i64 0, .bool false, .int .i64 (E : Int)]) ∧ Below w.heap.size w w' := by
  have HK := Lib.hid (check1 A n x l c w hr hl)
  have HE := Lib.hid hE
  have hn1 : ((E : Int) == 0) = false := by rw [beq_eq_false_iff_ne]; omega
  have hn2 : ((E : Int) != 0) = true := by simp only [bne, hn1, Bool.not_false]
  clear hr hl hE hne
  go_enter Try.func28, Try.ntmps28
  go_wp2_with fail
  refine HK.out.mono ?_
  rintro e w1 ⟨rfl, hb1⟩
  rw [HE.out]
  have HB1 := Lib.hid hb1
  clear hb1
  go_wp2_with fail
  go_ret3
  exact ⟨rfl, HB1.out⟩
theorem Fewest_bad (x : Int) (hE : checkS n l [x] = (E : Int)) :
    Calls Try.prog 29 #[.int .i64 n, .slice A l.length c, .bool own, .int .i64 x] w fun e w' => e = .returned (.tuple #[.int .i64 0, .bool false, .int .i64 (E : Int)]) ∧ Below w.heap.size w w' := by
  have HK := Lib.hid (check1 A n x l c w hr hl)
  have HE := Lib.hid hE
  have hn1 : ((E : Int) == 0) = false := by rw [beq_eq_false_iff_ne]; omega
  have hn2 : ((E : Int) != 0) = true := by simp only [bne, hn1, Bool.not_false]
  clear hr hl hE hne
  go_enter Try.func29, Try.ntmps29
  go_wp2_with fail
  refine HK.out.mono ?_
  rintro e w1 ⟨rfl, hb1⟩
  rw [HE.out]
  have HB1 := Lib.hid hb1
  clear hb1
  go_wp2_with fail
  go_ret3
  exact ⟨rfl, HB1.out⟩
theorem Refute_bad (x : Int) (hE : checkS n l [x] = (E : Int)) :
    Calls Try.prog 30 #[.int .i64 n, .slice A l.length c, .bool own, .int .i64 x] w fun e w' => e = .returned (.tuple #[.int .i64 0, .bool false, .int .i64 (E : Int)]) ∧ Below w.heap.size w w' := by
  have HK := Lib.hid (check1 A n x l c w hr hl)
  have HE := Lib.hid hE
  have hn1 : ((E : Int) == 0) = false := by rw [beq_eq_false_iff_ne]; omega
  have hn2 : ((E : Int) != 0) = true := by simp only [bne, hn1, Bool.not_false]
  clear hr hl hE hne
  go_enter Try.func30, Try.ntmps30
  go_wp2_with fail
  refine HK.out.mono ?_
  rintro e w1 ⟨rfl, hb1⟩
  rw [HE.out]
  have HB1 := Lib.hid hb1
  clear hb1
  go_wp2_with fail
  go_ret3
  exact ⟨rfl, HB1.out⟩
theorem IsRefutation_bad (x y : Int) (hE : checkS n l [x, y] = (E : Int)) :
    Calls Try.prog 31 #[.int .i64 n, .slice A l.length c, .bool own, .int .i64 x, .int .i64 y] w fun e w' => e = .returned (.tuple #[.bool false, .int .i64 (E : Int)]) ∧ Below w.heap.size w w' := by
  have HK := Lib.hid (check2 A n x y l c w hr hl)
  have HE := Lib.hid hE
  have hn1 : ((E : Int) == 0) = false := by rw [beq_eq_false_iff_ne]; omega
  have hn2 : ((E : Int) != 0) = true := by simp only [bne, hn1, Bool.not_false]
  clear hr hl hE hne
  go_enter Try.func31, Try.ntmps31
  go_wp2_with fail
  refine HK.out.mono ?_
  rintro e w1 ⟨rfl, hb1⟩
  rw [HE.out]
  have HB1 := Lib.hid hb1
  clear hb1
  go_wp2_with fail
  go_ret2
  exact ⟨rfl, HB1.out⟩
end
end Go.Proofs.Ytpdgjjpfahobaaa
