/- Rows and rings of holes: their lines, and how many rules they have (closed values). -/
import Derived.Test.YthbhengcinkepaaPg5
namespace Go.Proofs.Ythbhengcinkepaa
open Go.RowKit Lamp

/-- The lines of a row: three holes that follow one another. -/
def rowT (k : Nat) : List Tri := (List.range k).map fun (i : Nat) => ((i : Int), (i : Int) + 1, (i : Int) + 2)
theorem rowT_succ (k : Nat) : rowT (k + 1) = rowT k ++ [((k : Int), (k : Int) + 1, (k : Int) + 2)] := by simp [rowT, List.range_succ]
theorem rowT_len (k : Nat) : (rowT k).length = k := by simp [rowT]
/-- The lines of a ring. -/
def ringT (n k : Nat) : List Tri := [(0, 1, 2), (0, (n : Int) - 1, (n : Int) - 2), (1, 0, (n : Int) - 1)] ++ (List.range k).map fun (i : Nat) => (((i + 1 : Nat) : Int), ((i + 1 : Nat) : Int) + 1, ((i + 1 : Nat) : Int) + 2)
theorem ringT_succ (n k : Nat) : ringT n (k + 1) = ringT n k ++ [(((k + 1 : Nat) : Int), ((k + 1 : Nat) : Int) + 1, ((k + 1 : Nat) : Int) + 2)] := by simp [ringT, List.range_succ]
theorem ringT_len (n k : Nat) : (ringT n k).length = k + 3 := by simp [ringT]

theorem row_ok : ∀ n : Nat, n < 17 → 1 ≤ n → checkT n (rowT (n - 2)) = 0 ∧ (rulesL n (eqsL (rowT (n - 2)))).length = min n 2 := by decide +kernel
theorem ring_ok : ∀ n : Nat, n < 17 → 5 ≤ n → checkT n (ringT n (n - 3)) = 0 ∧ (rulesL n (eqsL (ringT n (n - 3)))).length = if n % 3 = 0 then 2 else 0 := by decide +kernel
end Go.Proofs.Ythbhengcinkepaa
