/- Closed values: the quiet basis of small grids has as many sets as the polynomials say. -/
import Derived.Test.YtpdgjjpfahobaaaGrid
import Derived.Test.YtpdgjjpfahobaaaLig6
import Derived.Test.YtpdgjjpfahobaaaPoly4
namespace Go.Proofs.Ytpdgjjpfahobaaa
open Go.RowKit Lamp

theorem small_grid (r c : Nat) (own : Bool) (hr1 : 1 ≤ r) (hr : r ≤ 4) (hc1 : 1 ≤ c) (hc : c ≤ 4) : ((quietL (grL (r * c) (gridL r c) own)).length : Int) = gridQ r c own := by
  have h : ∀ own : Bool, ∀ r, r < 4 → ∀ c, c < 4 → ((quietL (grL ((r + 1) * (c + 1)) (gridL (r + 1) (c + 1)) own)).length : Int) = gridQ (r + 1) (c + 1) own := by decide +kernel
  obtain ⟨r, rfl⟩ : ∃ q, r = q + 1 := ⟨r - 1, by omega⟩
  obtain ⟨c, rfl⟩ : ∃ q, c = q + 1 := ⟨c - 1, by omega⟩
  exact h own r (by omega) c (by omega)
theorem small_good (r c : Nat) (hr1 : 1 ≤ r) (hr : r ≤ 4) (hc1 : 1 ≤ c) (hc : c ≤ 4) : goodK ((r * c : Nat) : Int) (gridL r c) (gridL r c).length = true := by
  have h : ∀ r, r < 5 → ∀ c, c < 5 → 1 ≤ r → 1 ≤ c → goodK ((r * c : Nat) : Int) (gridL r c) (gridL r c).length = true := by decide +kernel
  exact h r (by omega) c (by omega) hr1 hc1
end Go.Proofs.Ytpdgjjpfahobaaa
