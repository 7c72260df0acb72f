/- Words for maps from int to int64: a block is a map that reads as a function with a set of keys; the laws of look-up, store and range over it, for the walk. -/
import Derived.Test.YthbhengcinkepaaGreatMem
namespace Go.Proofs.YthbhengcinkepaaGreat
open Go.RowKit Go.Maps

/-- A number that an int holds. -/
def W64 (x : Int) : Prop := -9223372036854775808 ≤ x ∧ x ≤ 9223372036854775807
theorem W64.wf {x : Int} (h : W64 x) : (Lit.int .i64 x).wf = true := WalkArith.wf_i64 h
theorem W64.of {x : Int} (h : (Lit.int .i64 x).wf = true) : W64 x := by
  simp [Lit.wf, IntKind.min, IntKind.max, IntKind.bits, IntKind.signed] at h
  unfold W64
  omega

theorem lawI : Keyed Tryz.prog 3 := int_keyed Tryz.underlying3
theorem zeroI (w : World) : (zeroValue 2).run Tryz.prog w = .ok (.int .i64 0) w := by kernel_rfl
theorem keyI {x : Int} (h : W64 x) : keyOf Tryz.prog 3 (.int .i64 x) = some (.int .i64 x) := keyOf_int_mk Tryz.underlying3 h.wf

theorem same_int (x y : Int) : (Lit.int .i64 y).sameKey (.int .i64 x) = decide (y = x) := by
  by_cases h : y = x
  · subst h
    rw [WideAt.sameKey_self (by trivial)]; simp
  · rw [sameKey_ne (fun e => h (by injection e))]; simp [h]
end Go.Proofs.YthbhengcinkepaaGreat
