/- Rows of holes and paths of lamps: closed values. -/
import Derived.Test.YthbhengcinkepaaReissL
import Derived.Test.YthbhengcinkepaaPairG
namespace Go.Proofs.Ythbhengcinkepaa
open Go.RowKit Lamp

/-- The first k edges of a path. -/
def pathK : Nat → List (Int × Int)
  | 0 => []
  | k + 1 => pathK k ++ [((k : Int), (k : Int) + 1)]
theorem pathK_len (k : Nat) : (pathK k).length = k := by
  induction k with
  | zero => rfl
  | succ k ih => rw [pathK, List.length_append, ih]; rfl
/-- The rules of a row of n holes. -/
def ruleR (n i : Nat) : Nat := (rulesL n (eqsL (rowT (n - 2)))).getD i 0
def allR (n : Nat) : List Nat := [0, ruleR n 0, ruleR n 1, ruleR n 0 ^^^ ruleR n 1]
def pathG (n : Nat) : List Nat := Lig.grL n (pathK (n - 1)) true
/-- What the i-th rule switches on a path. -/
def effR (n i : Nat) : Nat := comb ((allR n).getD i 0) (pathG n)
/-- How many of the first i rules switch none. -/
def zerosR (n : Nat) : Nat → Nat
  | 0 => 0
  | i + 1 => if effR n i = 0 then zerosR n i + 1 else zerosR n i
set_option maxRecDepth 100000 in
theorem top_vals : ∀ n : Nat, n < 17 → 3 ≤ n → (checkT n (rowT (n - 2)) = 0 ∧ rulesL n (eqsL (rowT (n - 2))) = [ruleR n 0, ruleR n 1] ∧ ruleR n 0 < 2 ^ n ∧ ruleR n 1 < 2 ^ n) ∧ (Lig.goodK (n : Int) (pathK (n - 1)) (pathK (n - 1)).length = true ∧ (Lig.quietL (pathG n)).length ≤ 1 ∧ zerosR n 4 = 2 ^ (Lig.quietL (pathG n)).length) ∧
    alikeB n (rowT (n - 2)) (ruleR n 0) = (decide (popc (ruleR n 0 &&& ruleR n 0) % 2 = 0) && decide (popc (ruleR n 1 &&& ruleR n 0) % 2 = 0)) := by decide +kernel
/-- What the i-th rule does, as it is asked. -/
def effB (n i : Nat) : Bool := decide (effR n i ^^^ (effR n i &&& (1 ||| 2 ^ (n - 1))) = 0) && (decide (effR n i < 2 ^ n) && (decide ((allR n).getD i 0 < 2 ^ n) && (!decide (effR n i = 0) || (decide ((allR n).getD i 0 = 0) || decide (Lig.quietL (pathG n) = [(allR n).getD i 0])))))
set_option maxRecDepth 100000 in
theorem top_eff : ∀ n : Nat, n < 17 → 3 ≤ n → ∀ i : Nat, i < 4 → effB n i = true := by decide +kernel
end Go.Proofs.Ythbhengcinkepaa
