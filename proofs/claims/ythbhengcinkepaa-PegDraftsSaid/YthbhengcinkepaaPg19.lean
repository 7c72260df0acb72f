/- Closed values of package peg. -/
import Derived.Test.YthbhengcinkepaaPg14
import Derived.Test.YthbhengcinkepaaPg5
import Derived.Test.YthbhengcinkepaaPg15
import Derived.Test.YthbhengcinkepaaGames
namespace Go.Proofs.Ythbhengcinkepaa
open Lamp

def fourL : List Tri := [(0, 1, 2), (1, 2, 3)]
def threeL : List Tri := [(0, 1, 2)]
theorem four_ok : checkT 4 fourL = 0 := by decide +kernel
theorem three_ok : checkT 3 threeL = 0 := by decide +kernel
theorem none_bad : checkT 0 [] = 1 := by decide +kernel
theorem four_rules : rulesL 4 (eqsL fourL) = [6, 11] := by decide +kernel
theorem four_alike : alikeB 4 fourL (3 ^^^ 8) = false := by decide +kernel
theorem four_w1 : areW 4 [1, 0, 1, 1] = true := by decide +kernel
theorem four_w2 : areW 4 [1, 1, 3, 1] = true := by decide +kernel
theorem four_p1 : pagodaB fourL [1, 0, 1, 1] = true := by decide +kernel
theorem four_p2 : pagodaB fourL [1, 1, 3, 1] = false := by decide +kernel
theorem three_jumps : jumpsL threeL = [(0, 1, 2), (2, 1, 0)] := by
  unfold jumpsL bothL threeL
  simp [List.mergeSort, List.MergeSort.Internal.splitInTwo, ltT]
theorem three_bfs : bfsK [(0, 1, 2), (2, 1, 0)] 3 2 = [(3, (0, 0, 0)), (4, (0, 1, 2))] := by decide +kernel
theorem three_reach : reachL (jumpsL threeL) 3 = [(3, (0, 0, 0)), (4, (0, 1, 2))] := by
  have hok : LinesOk 3 threeL := goodT_ok (checkT_zero three_ok).2.2.2
  rw [← reachL_end (n := 3) (by decide) (jumpsL_ok hok) (by decide) (i := 2) (by rw [three_jumps, three_bfs]; decide), three_jumps, three_bfs]
theorem three_few : fewN 3 (reachL (jumpsL threeL) 3) = 1 := by
  rw [three_reach]; decide +kernel
theorem three_has : hasQ (reachL (jumpsL threeL) 3) 4 = true := by
  rw [three_reach]; decide +kernel
theorem three_game {g : List Tri} (h : Game (jumpsL threeL) 3 g 4) : g = [(0, 1, 2)] := by
  rw [three_jumps] at h
  generalize hp : 3 = p at h
  generalize hq : 4 = q at h
  cases h with
  | nil => omega
  | cons h1 h2 h3 =>
    subst hp
    simp only [List.mem_cons, List.not_mem_nil, or_false] at h1
    rcases h1 with rfl | rfl
    · have e : fromJ ((0 : Int), (1 : Int), (2 : Int)) 3 = 4 := by decide +kernel
      rw [e] at h3
      generalize hr : 4 = r at h3
      cases h3 with
      | nil => rfl
      | cons h4 h5 _ =>
        subst hr
        simp only [List.mem_cons, List.not_mem_nil, or_false] at h4
        rcases h4 with rfl | rfl
        · exact absurd h5 (by decide +kernel)
        · exact absurd h5 (by decide +kernel)
    · exact absurd h2 (by decide +kernel)
end Go.Proofs.Ythbhengcinkepaa
