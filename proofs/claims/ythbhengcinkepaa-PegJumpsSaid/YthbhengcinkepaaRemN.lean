/- Numbers brought below a limit, as the statements do it. -/
import Derived.Test.YthbhengcinkepaaMem
import Derived.IntWalk
namespace Go.Proofs.Ythbhengcinkepaa

/-- A number brought below m, as the statements do it. -/
def remN (x : Int) (m : Nat) : Nat := (IntKind.u64.wrap x % (m : Int)).toNat
theorem remN_lt (x : Int) {m : Nat} (h : 1 ≤ m) : remN x m < m := by
  have h1 := Int.emod_nonneg (IntKind.u64.wrap x) (b := (m : Int)) (by omega)
  have h2 := Int.emod_lt_of_pos (IntKind.u64.wrap x) (b := (m : Int)) (by omega)
  unfold remN; omega
theorem remN_tmod (x : Int) {m : Nat} (h : 1 ≤ m) : (IntKind.u64.wrap x).tmod (m : Int) = ((remN x m : Nat) : Int) := by
  have h0 : 0 ≤ IntKind.u64.wrap x := by
    simp only [IntKind.wrap, IntKind.signed, Bool.false_and, Bool.false_eq_true, if_false]
    exact Int.emod_nonneg _ (by decide)
  have h1 := Int.emod_nonneg (IntKind.u64.wrap x) (b := (m : Int)) (by omega)
  rw [Int.tmod_eq_emod_of_nonneg h0]
  unfold remN; omega
theorem rem_i64 (x : Int) {m : Nat} (h1 : 1 ≤ m) (hm : m ≤ 65536) : IntKind.i64.wrap ((IntKind.u64.wrap x).tmod (m : Int)) = ((remN x m : Nat) : Int) := by
  rw [remN_tmod x h1]; have := remN_lt x h1; exact IntWalk.i64_in _ (by omega)
end Go.Proofs.Ythbhengcinkepaa
