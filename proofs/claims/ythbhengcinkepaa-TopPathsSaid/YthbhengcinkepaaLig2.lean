/- The greatest lamp of a set, the number of its lamps, whether that is odd. -/
import Derived.Test.YthbhengcinkepaaLig1
import Derived.Test.YthbhengcinkepaaOnesC
import Derived.Test.YthbhengcinkepaaShelf4
import Derived.Lib.ItoaNum
namespace Go.Proofs.Ythbhengcinkepaa.Lig
open Go.RowKit Lamp

theorem bitLen_log2 (x : Nat) (h0 : x ≠ 0) (h : x < 65536) : Lib.bitLen x = x.log2 + 1 := by
  have h1 := Lib.bitLenAux_bounds 64 x (Nat.lt_of_lt_of_le h (by decide)) h0
  have h4 := log2_eq (n := x) (t := Lib.bitLen x - 1) h1.2.1 (by rw [show Lib.bitLen x - 1 + 1 = Lib.bitLen x from Nat.sub_add_cancel h1.1]; exact h1.2.2)
  have h2 : 1 ≤ Lib.bitLen x := h1.1
  omega
theorem greatest_any (x : Nat) (w : World) (h0 : x ≠ 0) (h : x < 65536) :
    Calls Try.prog 133 #[.int .i64 x] w fun e w' => e = .returned (.int .i64 ((x.log2 : Nat) : Int)) ∧ w = w' := by
  have hb : ((Lib.bitLen (x : Int).toNat : Nat) : Int) = (x.log2 : Int) + 1 := by
    rw [show (x : Int).toNat = x from rfl, bitLen_log2 x h0 h]; omega
  have HB := Lib.hid hb
  have hl : x.log2 < 16 := log2_lt' h0 h
  clear hb
  go_enter Try.func133, Try.ntmps133
  go_wp2_with fail
  refine (Try.bits_Len (x : Int) w (by omega) (by omega)).mono ?_
  rintro e w' ⟨rfl, rfl⟩
  rw [HB.out]
  go_wp2_with fail
  go_ret
  exact ⟨rfl, rfl⟩

theorem size_any (x : Nat) (w : World) (h : x < 65536) :
    Calls Try.prog 172 #[.int .i64 x] w fun e w' => e = .returned (.int .i64 ((popc x : Nat) : Int)) ∧ w = w' := by
  go_enter Try.func172, Try.ntmps172
  go_wp2_with (go_at_call 70; refine (OnesCount_any x w h).mono ?_; rintro e w' ⟨rfl, rfl⟩)
  go_ret
  exact ⟨rfl, rfl⟩
theorem isOdd_any (x : Nat) (w : World) (h : x < 65536) :
    Calls Try.prog 147 #[.int .i64 x] w fun e w' => e = .returned (.bool (decide (popc x % 2 = 1))) ∧ w = w' := by
  have hp : popc x ≤ 16 := popK_le x 16
  go_enter Try.func147, Try.ntmps147
  go_wp2_with (go_at_call 172; refine (size_any x w h).mono ?_; rintro e w' ⟨rfl, rfl⟩)
  go_ret
  exact ⟨ret_bool (by
    rw [Bool.eq_iff_iff]
    simp only [beq_iff_eq, decide_eq_true_eq]
    omega), rfl⟩
end Go.Proofs.Ythbhengcinkepaa.Lig
