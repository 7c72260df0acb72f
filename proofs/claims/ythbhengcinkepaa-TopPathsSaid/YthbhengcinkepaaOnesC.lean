/- The number of bits of a number below 65536: the library's OnesCount. -/
import Derived.Test.YthbhengcinkepaaBitI
import Derived.Test.YthbhengcinkepaaPopL
import Derived.Lib.ItoaNum
namespace Go.Proofs.Ythbhengcinkepaa
open Go.RowKit Lamp

theorem u64_in {x : Int} (h0 : 0 ≤ x) (h : x < 18446744073709551616) : IntKind.u64.wrap x = x := by
  rw [IntKind.wrap_u64]; omega
theorem and_le (a b : Nat) : a &&& b ≤ a := Nat.and_le_left
theorem u64_c (a b : Nat) (ha : a < 18446744073709551616) (hb : b < 18446744073709551616) (c : Int) (hc : c = (b : Int)) : bits .and .u64 (a : Int) c = ((a &&& b : Nat) : Int) := by
  rw [hc]; exact u64_and_nat a b ha hb
theorem u_1 (x : Nat) (h : x < 4294967296) : IntKind.u64.wrap (bits BinOp.and IntKind.u64 ((x : Int) / 2) 6148914691236517205 + bits BinOp.and IntKind.u64 (x : Int) 6148914691236517205) = ((o1 x : Nat) : Int) ∧ o1 x ≤ 2 * x := by
  have h1 : ((x : Int) / 2) = ((x / 2 : Nat) : Int) := by omega
  rw [h1, u64_c (x / 2) 6148914691236517205 (by omega) (by decide) (6148914691236517205 : Int) rfl, u64_c x 6148914691236517205 (by omega) (by decide) (6148914691236517205 : Int) rfl]
  have a1 := and_le (x / 2) 6148914691236517205
  have a2 := and_le x 6148914691236517205
  unfold o1
  exact ⟨by rw [u64_in (by omega) (by omega)]; omega, by omega⟩
theorem u_2 (x : Nat) (h : x < 4294967296) : IntKind.u64.wrap (bits BinOp.and IntKind.u64 ((x : Int) / 4) 3689348814741910323 + bits BinOp.and IntKind.u64 (x : Int) 3689348814741910323) = ((o2 x : Nat) : Int) ∧ o2 x ≤ 2 * x := by
  have h1 : ((x : Int) / 4) = ((x / 4 : Nat) : Int) := by omega
  rw [h1, u64_c (x / 4) 3689348814741910323 (by omega) (by decide) (3689348814741910323 : Int) rfl, u64_c x 3689348814741910323 (by omega) (by decide) (3689348814741910323 : Int) rfl]
  have a1 := and_le (x / 4) 3689348814741910323
  have a2 := and_le x 3689348814741910323
  unfold o2
  exact ⟨by rw [u64_in (by omega) (by omega)]; omega, by omega⟩
theorem u_3 (x : Nat) (h : x < 4294967296) : bits BinOp.and IntKind.u64 (IntKind.u64.wrap ((x : Int) / 16 + (x : Int))) 1085102592571150095 = ((o3 x : Nat) : Int) ∧ o3 x ≤ 2 * x := by
  have h1 : IntKind.u64.wrap ((x : Int) / 16 + (x : Int)) = ((x / 16 + x : Nat) : Int) := by rw [u64_in (by omega) (by omega)]; omega
  rw [h1, u64_c (x / 16 + x) 1085102592571150095 (by omega) (by decide) (1085102592571150095 : Int) rfl]
  have a1 := and_le (x / 16 + x) 1085102592571150095
  unfold o3
  exact ⟨rfl, by omega⟩
theorem u_4 (x : Nat) (h : x < 4294967296) : IntKind.u64.wrap ((x : Int) + (x : Int) / 256) = ((o4 x : Nat) : Int) ∧ o4 x ≤ 2 * x := by
  unfold o4; exact ⟨by rw [u64_in (by omega) (by omega)]; omega, by omega⟩
theorem u_5 (x : Nat) (h : x < 4294967296) : IntKind.u64.wrap ((x : Int) + (x : Int) / 65536) = ((o5 x : Nat) : Int) ∧ o5 x ≤ 2 * x := by
  unfold o5; exact ⟨by rw [u64_in (by omega) (by omega)]; omega, by omega⟩
theorem u_6 (x : Nat) (h : x < 4294967296) : IntKind.u64.wrap ((x : Int) + (x : Int) / 4294967296) = ((o6 x : Nat) : Int) ∧ o6 x ≤ 2 * x := by
  unfold o6; exact ⟨by rw [u64_in (by omega) (by omega)]; omega, by omega⟩

theorem OnesCount64_any (x : Nat) (w : World) (h : x < 65536) :
    Calls Try.prog 113 #[.int .u64 x] w fun e w' => e = .returned (.int .i64 ((popc x : Nat) : Int)) ∧ w = w' := by
  have H := Lib.hid h
  clear h
  go_enter Try.func113, Try.ntmps113
  go_wp2_with fail
  go_ret
  refine ⟨ret_int ?_, rfl⟩
  have h := H.out
  obtain ⟨e1, b1⟩ := u_1 x (by omega)
  obtain ⟨e2, b2⟩ := u_2 (o1 x) (by omega)
  obtain ⟨e3, b3⟩ := u_3 (o2 (o1 x)) (by omega)
  obtain ⟨e4, b4⟩ := u_4 (o3 (o2 (o1 x))) (by omega)
  obtain ⟨e5, b5⟩ := u_5 (o4 (o3 (o2 (o1 x)))) (by omega)
  obtain ⟨e6, b6⟩ := u_6 (o5 (o4 (o3 (o2 (o1 x))))) (by omega)
  have e7 := i64_and (o6 (o5 (o4 (o3 (o2 (o1 x)))))) 127 (by omega) (by decide)
  rw [← oc_eq x h]
  show bits BinOp.and IntKind.i64 (wrap64 _) 127 = _
  rw [e1, e2, e3, e4, e5, e6, w64 (by omega), show (127 : Int) = ((127 : Nat) : Int) from rfl, e7]
  rfl
theorem OnesCount_any (x : Nat) (w : World) (h : x < 65536) :
    Calls Try.prog 70 #[.int .u64 x] w fun e w' => e = .returned (.int .i64 ((popc x : Nat) : Int)) ∧ w = w' := by
  go_enter Try.func70, Try.ntmps70
  go_wp2_with (go_at_call 113; refine (OnesCount64_any x w h).mono ?_; rintro e w' ⟨rfl, rfl⟩)
  go_ret
  exact ⟨rfl, rfl⟩
theorem popK_le (x k : Nat) : popK x k ≤ k := by
  induction k with
  | zero => exact Nat.le_refl _
  | succ k ih => unfold popK; omega
end Go.Proofs.Ythbhengcinkepaa
