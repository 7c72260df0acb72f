/- The error exits of the functions of package peg (but Solve): of data that are no board, and of positions out of range. -/
import Derived.Test.YthbhengcinkepaaGreatPg5
import Derived.Test.YthbhengcinkepaaGreatPg6
namespace Go.Proofs.YthbhengcinkepaaGreat
open Go.RowKit Lamp

theorem results_tmp4 {fn : Func} {t u v x : Tmp} (h : fn.results = #[.tmp t, .tmp u, .tmp v, .tmp x]) (tmps : Array Value) (P : Program) (w : World) :
    (results fn tmps).run P w = .ok (.tuple #[tmps.getD t undef, tmps.getD u undef, tmps.getD v undef, tmps.getD x undef]) w := by
  simp [results, h]
theorem Jumps_no (A : Option Addr) (c : Nat) (n p : Int) (l : List Tri) (w : World) (hr : RTri w w.heap.size A l) (hl : l.length ≤ 1000000) {z : Int} (hz : checkPs n l [p] = z) (h0 : z ≠ 0) :
    Calls Tryz.prog 10 #[.int .i64 n, .slice A l.length c, .int .i64 p] w fun e w' => e = .returned (.tuple #[.slice none 0 0, .int .i64 z]) ∧ Below w.heap.size w w' := by
  have he : (z == 0) = false := by simpa using h0
  have he2 : (z != 0) = true := by simpa using h0
  have HC := Lib.hid (check_1 A n l p c w hr hl)
  rw [hz] at HC
  clear hr hz
  go_enter Tryz.func10, Tryz.ntmps10
  go_wp2_with fail
  refine HC.out.mono ?_
  rintro e w1 ⟨rfl, hb⟩
  have HB := Lib.hid hb
  clear hb
  go_wp2_with fail
  go_ret2
  exact ⟨rfl, HB.out⟩
theorem Play_no (A : Option Addr) (c : Nat) (n p : Int) (A2 : Option Addr) (m c2 : Nat) (l : List Tri) (w : World) (hr : RTri w w.heap.size A l) (hl : l.length ≤ 1000000) {z : Int} (hz : checkPs n l [p] = z) (h0 : z ≠ 0) :
    Calls Tryz.prog 11 #[.int .i64 n, .slice A l.length c, .int .i64 p, .slice A2 m c2] w fun e w' => e = .returned (.tuple #[.int .i64 0, .int .i64 z]) ∧ Below w.heap.size w w' := by
  have he : (z == 0) = false := by simpa using h0
  have he2 : (z != 0) = true := by simpa using h0
  have HC := Lib.hid (check_1 A n l p c w hr hl)
  rw [hz] at HC
  clear hr hz
  go_enter Tryz.func11, Tryz.ntmps11
  go_wp2_with fail
  refine HC.out.mono ?_
  rintro e w1 ⟨rfl, hb⟩
  have HB := Lib.hid hb
  clear hb
  go_wp2_with fail
  go_ret2
  exact ⟨rfl, HB.out⟩
theorem Reached_no (A : Option Addr) (c : Nat) (n p : Int) (l : List Tri) (w : World) (hr : RTri w w.heap.size A l) (hl : l.length ≤ 1000000) {z : Int} (hz : checkPs n l [p] = z) (h0 : z ≠ 0) :
    Calls Tryz.prog 13 #[.int .i64 n, .slice A l.length c, .int .i64 p] w fun e w' => e = .returned (.tuple #[.slice none 0 0, .int .i64 z]) ∧ Below w.heap.size w w' := by
  have he : (z == 0) = false := by simpa using h0
  have he2 : (z != 0) = true := by simpa using h0
  have HC := Lib.hid (check_1 A n l p c w hr hl)
  rw [hz] at HC
  clear hr hz
  go_enter Tryz.func13, Tryz.ntmps13
  go_wp2_with fail
  refine HC.out.mono ?_
  rintro e w1 ⟨rfl, hb⟩
  have HB := Lib.hid hb
  clear hb
  go_wp2_with fail
  go_ret2
  exact ⟨rfl, HB.out⟩
theorem Fewest_no (A : Option Addr) (c : Nat) (n p : Int) (l : List Tri) (w : World) (hr : RTri w w.heap.size A l) (hl : l.length ≤ 1000000) {z : Int} (hz : checkPs n l [p] = z) (h0 : z ≠ 0) :
    Calls Tryz.prog 14 #[.int .i64 n, .slice A l.length c, .int .i64 p] w fun e w' => e = .returned (.tuple #[.int .i64 0, .int .i64 z]) ∧ Below w.heap.size w w' := by
  have he : (z == 0) = false := by simpa using h0
  have he2 : (z != 0) = true := by simpa using h0
  have HC := Lib.hid (check_1 A n l p c w hr hl)
  rw [hz] at HC
  clear hr hz
  go_enter Tryz.func14, Tryz.ntmps14
  go_wp2_with fail
  refine HC.out.mono ?_
  rintro e w1 ⟨rfl, hb⟩
  have HB := Lib.hid hb
  clear hb
  go_wp2_with fail
  go_ret2
  exact ⟨rfl, HB.out⟩
theorem Alike_no (A : Option Addr) (c : Nat) (n p q : Int) (l : List Tri) (w : World) (hr : RTri w w.heap.size A l) (hl : l.length ≤ 1000000) {z : Int} (hz : checkPs n l [p, q] = z) (h0 : z ≠ 0) :
    Calls Tryz.prog 16 #[.int .i64 n, .slice A l.length c, .int .i64 p, .int .i64 q] w fun e w' => e = .returned (.tuple #[.bool false, .int .i64 z]) ∧ Below w.heap.size w w' := by
  have he : (z == 0) = false := by simpa using h0
  have he2 : (z != 0) = true := by simpa using h0
  have HC := Lib.hid (check_2 A n l p q c w hr hl)
  rw [hz] at HC
  clear hr hz
  go_enter Tryz.func16, Tryz.ntmps16
  go_wp2_with fail
  refine HC.out.mono ?_
  rintro e w1 ⟨rfl, hb⟩
  have HB := Lib.hid hb
  clear hb
  go_wp2_with fail
  go_ret2
  exact ⟨rfl, HB.out⟩
theorem Refutes_no (A : Option Addr) (c : Nat) (n p q : Int) (A2 : Option Addr) (m c2 : Nat) (l : List Tri) (w : World) (hr : RTri w w.heap.size A l) (hl : l.length ≤ 1000000) {z : Int} (hz : checkPs n l [p, q] = z) (h0 : z ≠ 0) :
    Calls Tryz.prog 18 #[.int .i64 n, .slice A l.length c, .int .i64 p, .int .i64 q, .slice A2 m c2] w fun e w' => e = .returned (.tuple #[.bool false, .int .i64 z]) ∧ Below w.heap.size w w' := by
  have he : (z == 0) = false := by simpa using h0
  have he2 : (z != 0) = true := by simpa using h0
  have HC := Lib.hid (check_2 A n l p q c w hr hl)
  rw [hz] at HC
  clear hr hz
  go_enter Tryz.func18, Tryz.ntmps18
  go_wp2_with fail
  refine HC.out.mono ?_
  rintro e w1 ⟨rfl, hb⟩
  have HB := Lib.hid hb
  clear hb
  go_wp2_with fail
  go_ret2
  exact ⟨rfl, HB.out⟩
theorem checkSolved_no (A : Option Addr) (c : Nat) (n p q : Int) (l : List Tri) (w : World) (hr : RTri w w.heap.size A l) (hl : l.length ≤ 1000000) {z : Int} (hz : checkPs n l [p, q] = z) (h0 : z ≠ 0) :
    Calls Tryz.prog 42 #[.int .i64 n, .slice A l.length c, .int .i64 p, .int .i64 q] w fun e w' => e = .returned (.int .i64 z) ∧ Below w.heap.size w w' := by
  have he : (z == 0) = false := by simpa using h0
  have he2 : (z != 0) = true := by simpa using h0
  have HC := Lib.hid (check_2 A n l p q c w hr hl)
  rw [hz] at HC
  clear hr hz
  go_enter Tryz.func42, Tryz.ntmps42
  go_wp2_with fail
  refine HC.out.mono ?_
  rintro e w1 ⟨rfl, hb⟩
  have HB := Lib.hid hb
  clear hb
  go_wp2_with fail
  go_ret
  exact ⟨rfl, HB.out⟩
theorem IsPlan_no (A : Option Addr) (c : Nat) (n p q : Int) (k : Int) (A2 : Option Addr) (m c2 : Nat) (l : List Tri) (w : World) (hr : RTri w w.heap.size A l) (hl : l.length ≤ 1000000) {z : Int} (hz : checkPs n l [p, q] = z) (h0 : z ≠ 0) :
    Calls Tryz.prog 21 #[.int .i64 n, .slice A l.length c, .int .i64 p, .int .i64 q, .int .i64 k, .slice A2 m c2] w fun e w' => e = .returned (.bool false) ∧ Below w.heap.size w w' := by
  have he : (z == 0) = false := by simpa using h0
  have he2 : (z != 0) = true := by simpa using h0
  have HC := Lib.hid (check_2 A n l p q c w hr hl)
  rw [hz] at HC
  clear hr hz
  go_enter Tryz.func21, Tryz.ntmps21
  go_wp2_with fail
  refine HC.out.mono ?_
  rintro e w1 ⟨rfl, hb⟩
  have HB := Lib.hid hb
  clear hb
  go_wp2_with fail
  go_ret
  exact ⟨rfl, HB.out⟩
theorem Pagoda_no (A : Option Addr) (c : Nat) (n p q : Int) (l : List Tri) (w : World) (hr : RTri w w.heap.size A l) (hl : l.length ≤ 1000000) {z : Int} (hz : checkPs n l [p, q] = z) (h0 : z ≠ 0) :
    Calls Tryz.prog 19 #[.int .i64 n, .slice A l.length c, .int .i64 p, .int .i64 q] w fun e w' => e = .returned (.tuple #[.slice none 0 0, .bool false, .int .i64 z]) ∧ Below w.heap.size w w' := by
  have he : (z == 0) = false := by simpa using h0
  have he2 : (z != 0) = true := by simpa using h0
  have HC := Lib.hid (checkSolved_no A c n p q l w hr hl hz h0)
  clear hr hz
  go_enter Tryz.func19, Tryz.ntmps19
  go_wp2_with fail
  refine HC.out.mono ?_
  rintro e w1 ⟨rfl, hb⟩
  have HB := Lib.hid hb
  clear hb
  go_wp2_with fail
  go_ret3
  exact ⟨rfl, HB.out⟩
theorem Plan_no (A : Option Addr) (c : Nat) (n p q : Int) (l : List Tri) (w : World) (hr : RTri w w.heap.size A l) (hl : l.length ≤ 1000000) {z : Int} (hz : checkPs n l [p, q] = z) (h0 : z ≠ 0) :
    Calls Tryz.prog 20 #[.int .i64 n, .slice A l.length c, .int .i64 p, .int .i64 q] w fun e w' => e = .returned (.tuple #[.int .i64 0, .slice none 0 0, .bool false, .int .i64 z]) ∧ Below w.heap.size w w' := by
  have he : (z == 0) = false := by simpa using h0
  have he2 : (z != 0) = true := by simpa using h0
  have HC := Lib.hid (checkSolved_no A c n p q l w hr hl hz h0)
  clear hr hz
  go_enter Tryz.func20, Tryz.ntmps20
  go_wp2_with fail
  refine HC.out.mono ?_
  rintro e w1 ⟨rfl, hb⟩
  have HB := Lib.hid hb
  clear hb
  go_wp2_with fail
  try simp only [Exit.inBlock, Exit.then]
  refine bodyPost_ret (results_tmp4 rfl _ _ _) rfl ?_
  exact ⟨rfl, HB.out⟩
theorem checkPs_no {n : Int} {l : List Tri} {xs : List Int} (hc : checkT n l ≠ 0) : checkPs n l xs = checkT n l := by
  unfold checkPs
  rw [if_neg hc]
theorem checkPs_arg {n : Int} {l : List Tri} {xs : List Int} (hc : checkT n l = 0) (hx : ¬ xs.all (inPos n) = true) : checkPs n l xs = 1 := by
  unfold checkPs
  rw [if_pos hc, if_neg hx]
end Go.Proofs.YthbhengcinkepaaGreat
