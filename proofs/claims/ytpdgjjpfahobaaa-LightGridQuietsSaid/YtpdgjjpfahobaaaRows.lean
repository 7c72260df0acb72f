/-
  No cell of these rows narrows 'for every input' (looked for: loops, veiled, ifaces, maps, wideKeys, modest, calm, conditions, laid).
  DERIVED. THE GIVEN ROWS OF THIS SEAT. 17 by the template 'for every input the law returns true; each argument reads behind the call as it read before'; 0 by the template 'total and deterministic' (their statements: YtpdgjjpfahobaaaTotals.lean).
  GIVEN WITH THE SEED: the statements are not yours to turn. If you find one false, say at which input.
  Laid BY PROGRAM, IN A SANDBOX (cutbox-rows.mjs): the forced cells as the released guide's own fill.sh prints them over the translation a0c39ebd91b50c5a… (all of the seat's roots in one cut). By AI agents, Wed Nov 11 2026. No macro, syntax, notation, axiom, sorry.
-/
import Derived.Test.YtpdgjjpfahobaaaChecked
import GoSem.Claim
import GoSem.ClaimJoined
import GoSem.ClaimMapViews
import Derived.JoinedTies
import Derived.KernelRfl
namespace Go.Proofs.Ytpdgjjpfahobaaa
/- THE CELL 'sum', in the pinned program and in every row, IS THE sha256 OF THE DUMP (.gsa) THAT YtpdgjjpfahobaaaProg.lean LOADS. Nothing in Lean hashes anything: it is a label: what it is worth is what the hold of that sum in a sandbox is worth. -/
noncomputable def Try.pinned : Pinned := { name := "ytpdgjjpfahobaaa", sum := "a0c39ebd91b50c5a9f31377f5315f9a01dc2e078e679a903e9a18b35079b10e9", checked := Try.checked }
namespace Rows
def none {H : Type} : Left H := { results := [], args := [] }

/-- 'bibelotlaw04.LightChecks': WHATEVER THE INPUT: true; the input reads as it did. -/
def lightChecksSpec : ChangeSpec := { name := "lightChecks", fn := fun _ => fun
  | [d1, d2, d3] => { results := [.lit (.bool true)], args := [d1, d2, d3] }
  | _ => none }
def lightChecksRow : OpenClaim := { program := "ytpdgjjpfahobaaa", sum := "a0c39ebd91b50c5a9f31377f5315f9a01dc2e078e679a903e9a18b35079b10e9", func := "bibelot/bibelotlaw04.LightChecks", spec := "lightChecks", unfollowed := true, recurses := true, apart := false }
def LightChecksSaid : Prop := lightChecksRow.holds Try.pinned (OpenSpec.ofChange lightChecksSpec)

/-- ITS FALSE NEIGHBOUR: 'it returns false'. Refute it at one input. -/
def lightChecksWrong : ChangeSpec := { name := "lightChecks", fn := fun _ => fun
  | [d1, d2, d3] => { results := [.lit (.bool false)], args := [d1, d2, d3] }
  | _ => none }
def LightChecksWrongFalsely : Prop := lightChecksRow.holds Try.pinned (OpenSpec.ofChange lightChecksWrong)

/-- 'bibelotlaw04.LightEffects': WHATEVER THE INPUT: true; the input reads as it did. -/
def lightEffectsSpec : ChangeSpec := { name := "lightEffects", fn := fun _ => fun
  | [d1, d2, d3] => { results := [.lit (.bool true)], args := [d1, d2, d3] }
  | _ => none }
def lightEffectsRow : OpenClaim := { program := "ytpdgjjpfahobaaa", sum := "a0c39ebd91b50c5a9f31377f5315f9a01dc2e078e679a903e9a18b35079b10e9", func := "bibelot/bibelotlaw04.LightEffects", spec := "lightEffects", unfollowed := true, recurses := true, apart := false }
def LightEffectsSaid : Prop := lightEffectsRow.holds Try.pinned (OpenSpec.ofChange lightEffectsSpec)

/-- ITS FALSE NEIGHBOUR: 'it returns false'. Refute it at one input. -/
def lightEffectsWrong : ChangeSpec := { name := "lightEffects", fn := fun _ => fun
  | [d1, d2, d3] => { results := [.lit (.bool false)], args := [d1, d2, d3] }
  | _ => none }
def LightEffectsWrongFalsely : Prop := lightEffectsRow.holds Try.pinned (OpenSpec.ofChange lightEffectsWrong)

/-- 'bibelotlaw04.LightSolves': WHATEVER THE INPUT: true; the input reads as it did. -/
def lightSolvesSpec : ChangeSpec := { name := "lightSolves", fn := fun _ => fun
  | [d1, d2, d3] => { results := [.lit (.bool true)], args := [d1, d2, d3] }
  | _ => none }
def lightSolvesRow : OpenClaim := { program := "ytpdgjjpfahobaaa", sum := "a0c39ebd91b50c5a9f31377f5315f9a01dc2e078e679a903e9a18b35079b10e9", func := "bibelot/bibelotlaw04.LightSolves", spec := "lightSolves", unfollowed := true, recurses := true, apart := false }
def LightSolvesSaid : Prop := lightSolvesRow.holds Try.pinned (OpenSpec.ofChange lightSolvesSpec)

/-- ITS FALSE NEIGHBOUR: 'it returns false'. Refute it at one input. -/
def lightSolvesWrong : ChangeSpec := { name := "lightSolves", fn := fun _ => fun
  | [d1, d2, d3] => { results := [.lit (.bool false)], args := [d1, d2, d3] }
  | _ => none }
def LightSolvesWrongFalsely : Prop := lightSolvesRow.holds Try.pinned (OpenSpec.ofChange lightSolvesWrong)

/-- 'bibelotlaw04.LightQuiets': WHATEVER THE INPUT: true; the input reads as it did. -/
def lightQuietsSpec : ChangeSpec := { name := "lightQuiets", fn := fun _ => fun
  | [d1, d2, d3] => { results := [.lit (.bool true)], args := [d1, d2, d3] }
  | _ => none }
def lightQuietsRow : OpenClaim := { program := "ytpdgjjpfahobaaa", sum := "a0c39ebd91b50c5a9f31377f5315f9a01dc2e078e679a903e9a18b35079b10e9", func := "bibelot/bibelotlaw04.LightQuiets", spec := "lightQuiets", unfollowed := true, recurses := true, apart := false }
def LightQuietsSaid : Prop := lightQuietsRow.holds Try.pinned (OpenSpec.ofChange lightQuietsSpec)

/-- ITS FALSE NEIGHBOUR: 'it returns false'. Refute it at one input. -/
def lightQuietsWrong : ChangeSpec := { name := "lightQuiets", fn := fun _ => fun
  | [d1, d2, d3] => { results := [.lit (.bool false)], args := [d1, d2, d3] }
  | _ => none }
def LightQuietsWrongFalsely : Prop := lightQuietsRow.holds Try.pinned (OpenSpec.ofChange lightQuietsWrong)

/-- 'bibelotlaw04.LightRefutes': WHATEVER THE INPUT: true; the input reads as it did. -/
def lightRefutesSpec : ChangeSpec := { name := "lightRefutes", fn := fun _ => fun
  | [d1, d2, d3] => { results := [.lit (.bool true)], args := [d1, d2, d3] }
  | _ => none }
def lightRefutesRow : OpenClaim := { program := "ytpdgjjpfahobaaa", sum := "a0c39ebd91b50c5a9f31377f5315f9a01dc2e078e679a903e9a18b35079b10e9", func := "bibelot/bibelotlaw04.LightRefutes", spec := "lightRefutes", unfollowed := true, recurses := true, apart := false }
def LightRefutesSaid : Prop := lightRefutesRow.holds Try.pinned (OpenSpec.ofChange lightRefutesSpec)

/-- ITS FALSE NEIGHBOUR: 'it returns false'. Refute it at one input. -/
def lightRefutesWrong : ChangeSpec := { name := "lightRefutes", fn := fun _ => fun
  | [d1, d2, d3] => { results := [.lit (.bool false)], args := [d1, d2, d3] }
  | _ => none }
def LightRefutesWrongFalsely : Prop := lightRefutesRow.holds Try.pinned (OpenSpec.ofChange lightRefutesWrong)

/-- 'bibelotlaw04.LightReaches': WHATEVER THE INPUT: true; the input reads as it did. -/
def lightReachesSpec : ChangeSpec := { name := "lightReaches", fn := fun _ => fun
  | [d1, d2] => { results := [.lit (.bool true)], args := [d1, d2] }
  | _ => none }
def lightReachesRow : OpenClaim := { program := "ytpdgjjpfahobaaa", sum := "a0c39ebd91b50c5a9f31377f5315f9a01dc2e078e679a903e9a18b35079b10e9", func := "bibelot/bibelotlaw04.LightReaches", spec := "lightReaches", unfollowed := true, recurses := true, apart := false }
def LightReachesSaid : Prop := lightReachesRow.holds Try.pinned (OpenSpec.ofChange lightReachesSpec)

/-- ITS FALSE NEIGHBOUR: 'it returns false'. Refute it at one input. -/
def lightReachesWrong : ChangeSpec := { name := "lightReaches", fn := fun _ => fun
  | [d1, d2] => { results := [.lit (.bool false)], args := [d1, d2] }
  | _ => none }
def LightReachesWrongFalsely : Prop := lightReachesRow.holds Try.pinned (OpenSpec.ofChange lightReachesWrong)

/-- 'bibelotlaw04.LightGrids': WHATEVER THE INPUT: true; the input reads as it did. -/
def lightGridsSpec : ChangeSpec := { name := "lightGrids", fn := fun _ => fun
  | [d1, d2] => { results := [.lit (.bool true)], args := [d1, d2] }
  | _ => none }
def lightGridsRow : OpenClaim := { program := "ytpdgjjpfahobaaa", sum := "a0c39ebd91b50c5a9f31377f5315f9a01dc2e078e679a903e9a18b35079b10e9", func := "bibelot/bibelotlaw04.LightGrids", spec := "lightGrids", unfollowed := true, recurses := true, apart := false }
def LightGridsSaid : Prop := lightGridsRow.holds Try.pinned (OpenSpec.ofChange lightGridsSpec)

/-- ITS FALSE NEIGHBOUR: 'it returns false'. Refute it at one input. -/
def lightGridsWrong : ChangeSpec := { name := "lightGrids", fn := fun _ => fun
  | [d1, d2] => { results := [.lit (.bool false)], args := [d1, d2] }
  | _ => none }
def LightGridsWrongFalsely : Prop := lightGridsRow.holds Try.pinned (OpenSpec.ofChange lightGridsWrong)

/-- 'bibelotlaw04.LightGridQuiets': WHATEVER THE INPUT: true; the input reads as it did. -/
def lightGridQuietsSpec : ChangeSpec := { name := "lightGridQuiets", fn := fun _ => fun
  | [d1, d2, d3] => { results := [.lit (.bool true)], args := [d1, d2, d3] }
  | _ => none }
def lightGridQuietsRow : OpenClaim := { program := "ytpdgjjpfahobaaa", sum := "a0c39ebd91b50c5a9f31377f5315f9a01dc2e078e679a903e9a18b35079b10e9", func := "bibelot/bibelotlaw04.LightGridQuiets", spec := "lightGridQuiets", unfollowed := true, recurses := true, apart := false }
def LightGridQuietsSaid : Prop := lightGridQuietsRow.holds Try.pinned (OpenSpec.ofChange lightGridQuietsSpec)

/-- ITS FALSE NEIGHBOUR: 'it returns false'. Refute it at one input. -/
def lightGridQuietsWrong : ChangeSpec := { name := "lightGridQuiets", fn := fun _ => fun
  | [d1, d2, d3] => { results := [.lit (.bool false)], args := [d1, d2, d3] }
  | _ => none }
def LightGridQuietsWrongFalsely : Prop := lightGridQuietsRow.holds Try.pinned (OpenSpec.ofChange lightGridQuietsWrong)

/-- 'bibelotlaw04.LightPolynomials': WHATEVER THE INPUT: true; the input reads as it did. -/
def lightPolynomialsSpec : ChangeSpec := { name := "lightPolynomials", fn := fun _ => fun
  | [d] => { results := [.lit (.bool true)], args := [d] }
  | _ => none }
def lightPolynomialsRow : OpenClaim := { program := "ytpdgjjpfahobaaa", sum := "a0c39ebd91b50c5a9f31377f5315f9a01dc2e078e679a903e9a18b35079b10e9", func := "bibelot/bibelotlaw04.LightPolynomials", spec := "lightPolynomials", unfollowed := true, recurses := true, apart := false }
def LightPolynomialsSaid : Prop := lightPolynomialsRow.holds Try.pinned (OpenSpec.ofChange lightPolynomialsSpec)

/-- ITS FALSE NEIGHBOUR: 'it returns false'. Refute it at one input. -/
def lightPolynomialsWrong : ChangeSpec := { name := "lightPolynomials", fn := fun _ => fun
  | [d] => { results := [.lit (.bool false)], args := [d] }
  | _ => none }
def LightPolynomialsWrongFalsely : Prop := lightPolynomialsRow.holds Try.pinned (OpenSpec.ofChange lightPolynomialsWrong)

/-- 'bibelotlaw04.LightGauss': WHATEVER THE INPUT: true; the input reads as it did. -/
def lightGaussSpec : ChangeSpec := { name := "lightGauss", fn := fun _ => fun
  | [d1, d2, d3] => { results := [.lit (.bool true)], args := [d1, d2, d3] }
  | _ => none }
def lightGaussRow : OpenClaim := { program := "ytpdgjjpfahobaaa", sum := "a0c39ebd91b50c5a9f31377f5315f9a01dc2e078e679a903e9a18b35079b10e9", func := "bibelot/bibelotlaw04.LightGauss", spec := "lightGauss", unfollowed := true, recurses := true, apart := false }
def LightGaussSaid : Prop := lightGaussRow.holds Try.pinned (OpenSpec.ofChange lightGaussSpec)

/-- ITS FALSE NEIGHBOUR: 'it returns false'. Refute it at one input. -/
def lightGaussWrong : ChangeSpec := { name := "lightGauss", fn := fun _ => fun
  | [d1, d2, d3] => { results := [.lit (.bool false)], args := [d1, d2, d3] }
  | _ => none }
def LightGaussWrongFalsely : Prop := lightGaussRow.holds Try.pinned (OpenSpec.ofChange lightGaussWrong)

/-- 'bibelotlaw04.LightSutner': WHATEVER THE INPUT: true; the input reads as it did. -/
def lightSutnerSpec : ChangeSpec := { name := "lightSutner", fn := fun _ => fun
  | [d1, d2] => { results := [.lit (.bool true)], args := [d1, d2] }
  | _ => none }
def lightSutnerRow : OpenClaim := { program := "ytpdgjjpfahobaaa", sum := "a0c39ebd91b50c5a9f31377f5315f9a01dc2e078e679a903e9a18b35079b10e9", func := "bibelot/bibelotlaw04.LightSutner", spec := "lightSutner", unfollowed := true, recurses := true, apart := false }
def LightSutnerSaid : Prop := lightSutnerRow.holds Try.pinned (OpenSpec.ofChange lightSutnerSpec)

/-- ITS FALSE NEIGHBOUR: 'it returns false'. Refute it at one input. -/
def lightSutnerWrong : ChangeSpec := { name := "lightSutner", fn := fun _ => fun
  | [d1, d2] => { results := [.lit (.bool false)], args := [d1, d2] }
  | _ => none }
def LightSutnerWrongFalsely : Prop := lightSutnerRow.holds Try.pinned (OpenSpec.ofChange lightSutnerWrong)

/-- 'bibelotlaw04.LightPaths': WHATEVER THE INPUT: true; the input reads as it did. -/
def lightPathsSpec : ChangeSpec := { name := "lightPaths", fn := fun _ => fun
  | [d] => { results := [.lit (.bool true)], args := [d] }
  | _ => none }
def lightPathsRow : OpenClaim := { program := "ytpdgjjpfahobaaa", sum := "a0c39ebd91b50c5a9f31377f5315f9a01dc2e078e679a903e9a18b35079b10e9", func := "bibelot/bibelotlaw04.LightPaths", spec := "lightPaths", unfollowed := true, recurses := true, apart := false }
def LightPathsSaid : Prop := lightPathsRow.holds Try.pinned (OpenSpec.ofChange lightPathsSpec)

/-- ITS FALSE NEIGHBOUR: 'it returns false'. Refute it at one input. -/
def lightPathsWrong : ChangeSpec := { name := "lightPaths", fn := fun _ => fun
  | [d] => { results := [.lit (.bool false)], args := [d] }
  | _ => none }
def LightPathsWrongFalsely : Prop := lightPathsRow.holds Try.pinned (OpenSpec.ofChange lightPathsWrong)

/-- 'bibelotlaw04.LightDegrees': WHATEVER THE INPUT: true; the input reads as it did. -/
def lightDegreesSpec : ChangeSpec := { name := "lightDegrees", fn := fun _ => fun
  | [d1, d2] => { results := [.lit (.bool true)], args := [d1, d2] }
  | _ => none }
def lightDegreesRow : OpenClaim := { program := "ytpdgjjpfahobaaa", sum := "a0c39ebd91b50c5a9f31377f5315f9a01dc2e078e679a903e9a18b35079b10e9", func := "bibelot/bibelotlaw04.LightDegrees", spec := "lightDegrees", unfollowed := true, recurses := true, apart := false }
def LightDegreesSaid : Prop := lightDegreesRow.holds Try.pinned (OpenSpec.ofChange lightDegreesSpec)

/-- ITS FALSE NEIGHBOUR: 'it returns false'. Refute it at one input. -/
def lightDegreesWrong : ChangeSpec := { name := "lightDegrees", fn := fun _ => fun
  | [d1, d2] => { results := [.lit (.bool false)], args := [d1, d2] }
  | _ => none }
def LightDegreesWrongFalsely : Prop := lightDegreesRow.holds Try.pinned (OpenSpec.ofChange lightDegreesWrong)

/-- 'bibelotlaw04.LightOwn': WHATEVER THE INPUT: true; the input reads as it did. -/
def lightOwnSpec : ChangeSpec := { name := "lightOwn", fn := fun _ => fun
  | [d1, d2, d3] => { results := [.lit (.bool true)], args := [d1, d2, d3] }
  | _ => none }
def lightOwnRow : OpenClaim := { program := "ytpdgjjpfahobaaa", sum := "a0c39ebd91b50c5a9f31377f5315f9a01dc2e078e679a903e9a18b35079b10e9", func := "bibelot/bibelotlaw04.LightOwn", spec := "lightOwn", unfollowed := true, recurses := true, apart := false }
def LightOwnSaid : Prop := lightOwnRow.holds Try.pinned (OpenSpec.ofChange lightOwnSpec)

/-- ITS FALSE NEIGHBOUR: 'it returns false'. Refute it at one input. -/
def lightOwnWrong : ChangeSpec := { name := "lightOwn", fn := fun _ => fun
  | [d1, d2, d3] => { results := [.lit (.bool false)], args := [d1, d2, d3] }
  | _ => none }
def LightOwnWrongFalsely : Prop := lightOwnRow.holds Try.pinned (OpenSpec.ofChange lightOwnWrong)

/-- 'bibelottop.TopPaths': WHATEVER THE INPUT: true; the input reads as it did. -/
def topPathsSpec : ChangeSpec := { name := "topPaths", fn := fun _ => fun
  | [d1, d2] => { results := [.lit (.bool true)], args := [d1, d2] }
  | _ => none }
def topPathsRow : OpenClaim := { program := "ytpdgjjpfahobaaa", sum := "a0c39ebd91b50c5a9f31377f5315f9a01dc2e078e679a903e9a18b35079b10e9", func := "bibelot/bibelottop.TopPaths", spec := "topPaths", unfollowed := true, recurses := true, apart := false }
def TopPathsSaid : Prop := topPathsRow.holds Try.pinned (OpenSpec.ofChange topPathsSpec)

/-- ITS FALSE NEIGHBOUR: 'it returns false'. Refute it at one input. -/
def topPathsWrong : ChangeSpec := { name := "topPaths", fn := fun _ => fun
  | [d1, d2] => { results := [.lit (.bool false)], args := [d1, d2] }
  | _ => none }
def TopPathsWrongFalsely : Prop := topPathsRow.holds Try.pinned (OpenSpec.ofChange topPathsWrong)

/-- 'bibelottop.TopRanks': WHATEVER THE INPUT: true; the input reads as it did. -/
def topRanksSpec : ChangeSpec := { name := "topRanks", fn := fun _ => fun
  | [d1, d2, d3] => { results := [.lit (.bool true)], args := [d1, d2, d3] }
  | _ => none }
def topRanksRow : OpenClaim := { program := "ytpdgjjpfahobaaa", sum := "a0c39ebd91b50c5a9f31377f5315f9a01dc2e078e679a903e9a18b35079b10e9", func := "bibelot/bibelottop.TopRanks", spec := "topRanks", unfollowed := true, recurses := true, apart := false }
def TopRanksSaid : Prop := topRanksRow.holds Try.pinned (OpenSpec.ofChange topRanksSpec)

/-- ITS FALSE NEIGHBOUR: 'it returns false'. Refute it at one input. -/
def topRanksWrong : ChangeSpec := { name := "topRanks", fn := fun _ => fun
  | [d1, d2, d3] => { results := [.lit (.bool false)], args := [d1, d2, d3] }
  | _ => none }
def TopRanksWrongFalsely : Prop := topRanksRow.holds Try.pinned (OpenSpec.ofChange topRanksWrong)

/-- 'bibelottop.TopSwitched': WHATEVER THE INPUT: true; the input reads as it did. -/
def topSwitchedSpec : ChangeSpec := { name := "topSwitched", fn := fun _ => fun
  | [d1, d2, d3] => { results := [.lit (.bool true)], args := [d1, d2, d3] }
  | _ => none }
def topSwitchedRow : OpenClaim := { program := "ytpdgjjpfahobaaa", sum := "a0c39ebd91b50c5a9f31377f5315f9a01dc2e078e679a903e9a18b35079b10e9", func := "bibelot/bibelottop.TopSwitched", spec := "topSwitched", unfollowed := true, recurses := true, apart := false }
def TopSwitchedSaid : Prop := topSwitchedRow.holds Try.pinned (OpenSpec.ofChange topSwitchedSpec)

/-- ITS FALSE NEIGHBOUR: 'it returns false'. Refute it at one input. -/
def topSwitchedWrong : ChangeSpec := { name := "topSwitched", fn := fun _ => fun
  | [d1, d2, d3] => { results := [.lit (.bool false)], args := [d1, d2, d3] }
  | _ => none }
def TopSwitchedWrongFalsely : Prop := topSwitchedRow.holds Try.pinned (OpenSpec.ofChange topSwitchedWrong)

/- THE SECOND FORM. 'bulk': how many values and letters a reading holds, each counted each time it is reached (what is shared counts as often as it is met; a slice's spare places count too). A statement '..UptoSaid' is the law's where the arguments, and the package variables that the reading takes, are together of bulk at most 1048576: NARROWER than '..Said'. Prove '..Said' where nothing that the law and all that it calls make is longer than what came in: it says more and counts as full. Else prove '..UptoSaid'. A law counts once. -/
mutual
def uptoBulk {H : Type} : DataW H → Nat
  | .lit (.string bytes) => bytes.length + 1
  | .lit _ => 1
  | .nil => 1
  | .ptr d => uptoBulk d + 1
  | .slice elems spare => uptoBulkAll elems + uptoBulkAll spare + 1
  | .agg parts => uptoBulkAll parts + 1
  | .iface _ d => uptoBulk d + 1
  | .map entries => uptoBulkEntries entries + 1
  | .held _ => 1
def uptoBulkAll {H : Type} : List (DataW H) → Nat
  | [] => 0
  | d :: r => uptoBulk d + uptoBulkAll r
def uptoBulkEntries {H : Type} : List (Lit × DataW H) → Nat
  | [] => 0
  | x :: r => uptoBulkEntry x + uptoBulkEntries r
def uptoBulkEntry {H : Type} : Lit × DataW H → Nat
  | (.string bytes, d) => bytes.length + uptoBulk d + 1
  | (_, d) => uptoBulk d + 1
 end
def uptoSmall : (H : Type) → List (DataW H) → Bool := fun _ ds => decide (uptoBulkAll ds ≤ 1048576)
def OpenSpec.upto (s : _root_.Go.ChangeSpec) : _root_.Go.OpenSpec := { _root_.Go.OpenSpec.ofChange s with cond := some uptoSmall }

/-- 'bibelotlaw04.LightChecks', WHERE WHAT IT READS IS OF BULK AT MOST 1048576: true; the input reads as it did. -/
def lightChecksUptoRow : OpenClaim := { program := "ytpdgjjpfahobaaa", sum := "a0c39ebd91b50c5a9f31377f5315f9a01dc2e078e679a903e9a18b35079b10e9", func := "bibelot/bibelotlaw04.LightChecks", spec := "lightChecks", unfollowed := true, recurses := true, apart := false, narrowed := true }
def LightChecksUptoSaid : Prop := lightChecksUptoRow.holds Try.pinned (OpenSpec.upto lightChecksSpec)

/-- 'bibelotlaw04.LightEffects', WHERE WHAT IT READS IS OF BULK AT MOST 1048576: true; the input reads as it did. -/
def lightEffectsUptoRow : OpenClaim := { program := "ytpdgjjpfahobaaa", sum := "a0c39ebd91b50c5a9f31377f5315f9a01dc2e078e679a903e9a18b35079b10e9", func := "bibelot/bibelotlaw04.LightEffects", spec := "lightEffects", unfollowed := true, recurses := true, apart := false, narrowed := true }
def LightEffectsUptoSaid : Prop := lightEffectsUptoRow.holds Try.pinned (OpenSpec.upto lightEffectsSpec)

/-- 'bibelotlaw04.LightSolves', WHERE WHAT IT READS IS OF BULK AT MOST 1048576: true; the input reads as it did. -/
def lightSolvesUptoRow : OpenClaim := { program := "ytpdgjjpfahobaaa", sum := "a0c39ebd91b50c5a9f31377f5315f9a01dc2e078e679a903e9a18b35079b10e9", func := "bibelot/bibelotlaw04.LightSolves", spec := "lightSolves", unfollowed := true, recurses := true, apart := false, narrowed := true }
def LightSolvesUptoSaid : Prop := lightSolvesUptoRow.holds Try.pinned (OpenSpec.upto lightSolvesSpec)

/-- 'bibelotlaw04.LightQuiets', WHERE WHAT IT READS IS OF BULK AT MOST 1048576: true; the input reads as it did. -/
def lightQuietsUptoRow : OpenClaim := { program := "ytpdgjjpfahobaaa", sum := "a0c39ebd91b50c5a9f31377f5315f9a01dc2e078e679a903e9a18b35079b10e9", func := "bibelot/bibelotlaw04.LightQuiets", spec := "lightQuiets", unfollowed := true, recurses := true, apart := false, narrowed := true }
def LightQuietsUptoSaid : Prop := lightQuietsUptoRow.holds Try.pinned (OpenSpec.upto lightQuietsSpec)

/-- 'bibelotlaw04.LightRefutes', WHERE WHAT IT READS IS OF BULK AT MOST 1048576: true; the input reads as it did. -/
def lightRefutesUptoRow : OpenClaim := { program := "ytpdgjjpfahobaaa", sum := "a0c39ebd91b50c5a9f31377f5315f9a01dc2e078e679a903e9a18b35079b10e9", func := "bibelot/bibelotlaw04.LightRefutes", spec := "lightRefutes", unfollowed := true, recurses := true, apart := false, narrowed := true }
def LightRefutesUptoSaid : Prop := lightRefutesUptoRow.holds Try.pinned (OpenSpec.upto lightRefutesSpec)

/-- 'bibelotlaw04.LightReaches', WHERE WHAT IT READS IS OF BULK AT MOST 1048576: true; the input reads as it did. -/
def lightReachesUptoRow : OpenClaim := { program := "ytpdgjjpfahobaaa", sum := "a0c39ebd91b50c5a9f31377f5315f9a01dc2e078e679a903e9a18b35079b10e9", func := "bibelot/bibelotlaw04.LightReaches", spec := "lightReaches", unfollowed := true, recurses := true, apart := false, narrowed := true }
def LightReachesUptoSaid : Prop := lightReachesUptoRow.holds Try.pinned (OpenSpec.upto lightReachesSpec)

/-- 'bibelotlaw04.LightGrids', WHERE WHAT IT READS IS OF BULK AT MOST 1048576: true; the input reads as it did. -/
def lightGridsUptoRow : OpenClaim := { program := "ytpdgjjpfahobaaa", sum := "a0c39ebd91b50c5a9f31377f5315f9a01dc2e078e679a903e9a18b35079b10e9", func := "bibelot/bibelotlaw04.LightGrids", spec := "lightGrids", unfollowed := true, recurses := true, apart := false, narrowed := true }
def LightGridsUptoSaid : Prop := lightGridsUptoRow.holds Try.pinned (OpenSpec.upto lightGridsSpec)

/-- 'bibelotlaw04.LightGridQuiets', WHERE WHAT IT READS IS OF BULK AT MOST 1048576: true; the input reads as it did. -/
def lightGridQuietsUptoRow : OpenClaim := { program := "ytpdgjjpfahobaaa", sum := "a0c39ebd91b50c5a9f31377f5315f9a01dc2e078e679a903e9a18b35079b10e9", func := "bibelot/bibelotlaw04.LightGridQuiets", spec := "lightGridQuiets", unfollowed := true, recurses := true, apart := false, narrowed := true }
def LightGridQuietsUptoSaid : Prop := lightGridQuietsUptoRow.holds Try.pinned (OpenSpec.upto lightGridQuietsSpec)

/-- 'bibelotlaw04.LightPolynomials', WHERE WHAT IT READS IS OF BULK AT MOST 1048576: true; the input reads as it did. -/
def lightPolynomialsUptoRow : OpenClaim := { program := "ytpdgjjpfahobaaa", sum := "a0c39ebd91b50c5a9f31377f5315f9a01dc2e078e679a903e9a18b35079b10e9", func := "bibelot/bibelotlaw04.LightPolynomials", spec := "lightPolynomials", unfollowed := true, recurses := true, apart := false, narrowed := true }
def LightPolynomialsUptoSaid : Prop := lightPolynomialsUptoRow.holds Try.pinned (OpenSpec.upto lightPolynomialsSpec)

/-- 'bibelotlaw04.LightGauss', WHERE WHAT IT READS IS OF BULK AT MOST 1048576: true; the input reads as it did. -/
def lightGaussUptoRow : OpenClaim := { program := "ytpdgjjpfahobaaa", sum := "a0c39ebd91b50c5a9f31377f5315f9a01dc2e078e679a903e9a18b35079b10e9", func := "bibelot/bibelotlaw04.LightGauss", spec := "lightGauss", unfollowed := true, recurses := true, apart := false, narrowed := true }
def LightGaussUptoSaid : Prop := lightGaussUptoRow.holds Try.pinned (OpenSpec.upto lightGaussSpec)

/-- 'bibelotlaw04.LightSutner', WHERE WHAT IT READS IS OF BULK AT MOST 1048576: true; the input reads as it did. -/
def lightSutnerUptoRow : OpenClaim := { program := "ytpdgjjpfahobaaa", sum := "a0c39ebd91b50c5a9f31377f5315f9a01dc2e078e679a903e9a18b35079b10e9", func := "bibelot/bibelotlaw04.LightSutner", spec := "lightSutner", unfollowed := true, recurses := true, apart := false, narrowed := true }
def LightSutnerUptoSaid : Prop := lightSutnerUptoRow.holds Try.pinned (OpenSpec.upto lightSutnerSpec)

/-- 'bibelotlaw04.LightPaths', WHERE WHAT IT READS IS OF BULK AT MOST 1048576: true; the input reads as it did. -/
def lightPathsUptoRow : OpenClaim := { program := "ytpdgjjpfahobaaa", sum := "a0c39ebd91b50c5a9f31377f5315f9a01dc2e078e679a903e9a18b35079b10e9", func := "bibelot/bibelotlaw04.LightPaths", spec := "lightPaths", unfollowed := true, recurses := true, apart := false, narrowed := true }
def LightPathsUptoSaid : Prop := lightPathsUptoRow.holds Try.pinned (OpenSpec.upto lightPathsSpec)

/-- 'bibelotlaw04.LightDegrees', WHERE WHAT IT READS IS OF BULK AT MOST 1048576: true; the input reads as it did. -/
def lightDegreesUptoRow : OpenClaim := { program := "ytpdgjjpfahobaaa", sum := "a0c39ebd91b50c5a9f31377f5315f9a01dc2e078e679a903e9a18b35079b10e9", func := "bibelot/bibelotlaw04.LightDegrees", spec := "lightDegrees", unfollowed := true, recurses := true, apart := false, narrowed := true }
def LightDegreesUptoSaid : Prop := lightDegreesUptoRow.holds Try.pinned (OpenSpec.upto lightDegreesSpec)

/-- 'bibelotlaw04.LightOwn', WHERE WHAT IT READS IS OF BULK AT MOST 1048576: true; the input reads as it did. -/
def lightOwnUptoRow : OpenClaim := { program := "ytpdgjjpfahobaaa", sum := "a0c39ebd91b50c5a9f31377f5315f9a01dc2e078e679a903e9a18b35079b10e9", func := "bibelot/bibelotlaw04.LightOwn", spec := "lightOwn", unfollowed := true, recurses := true, apart := false, narrowed := true }
def LightOwnUptoSaid : Prop := lightOwnUptoRow.holds Try.pinned (OpenSpec.upto lightOwnSpec)

/-- 'bibelottop.TopPaths', WHERE WHAT IT READS IS OF BULK AT MOST 1048576: true; the input reads as it did. -/
def topPathsUptoRow : OpenClaim := { program := "ytpdgjjpfahobaaa", sum := "a0c39ebd91b50c5a9f31377f5315f9a01dc2e078e679a903e9a18b35079b10e9", func := "bibelot/bibelottop.TopPaths", spec := "topPaths", unfollowed := true, recurses := true, apart := false, narrowed := true }
def TopPathsUptoSaid : Prop := topPathsUptoRow.holds Try.pinned (OpenSpec.upto topPathsSpec)

/-- 'bibelottop.TopRanks', WHERE WHAT IT READS IS OF BULK AT MOST 1048576: true; the input reads as it did. -/
def topRanksUptoRow : OpenClaim := { program := "ytpdgjjpfahobaaa", sum := "a0c39ebd91b50c5a9f31377f5315f9a01dc2e078e679a903e9a18b35079b10e9", func := "bibelot/bibelottop.TopRanks", spec := "topRanks", unfollowed := true, recurses := true, apart := false, narrowed := true }
def TopRanksUptoSaid : Prop := topRanksUptoRow.holds Try.pinned (OpenSpec.upto topRanksSpec)

/-- 'bibelottop.TopSwitched', WHERE WHAT IT READS IS OF BULK AT MOST 1048576: true; the input reads as it did. -/
def topSwitchedUptoRow : OpenClaim := { program := "ytpdgjjpfahobaaa", sum := "a0c39ebd91b50c5a9f31377f5315f9a01dc2e078e679a903e9a18b35079b10e9", func := "bibelot/bibelottop.TopSwitched", spec := "topSwitched", unfollowed := true, recurses := true, apart := false, narrowed := true }
def TopSwitchedUptoSaid : Prop := topSwitchedUptoRow.holds Try.pinned (OpenSpec.upto topSwitchedSpec)

end Rows
end Go.Proofs.Ytpdgjjpfahobaaa
