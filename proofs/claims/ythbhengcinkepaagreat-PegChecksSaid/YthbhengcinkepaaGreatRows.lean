/-
  No cell of these rows narrows 'for every input' (looked for: loops, veiled, ifaces, maps, wideKeys, modest, calm, conditions, laid).
  DERIVED. THE GIVEN ROWS OF THIS SEAT. 3 by the template 'for every input the law returns true; each argument reads behind the call as it read before'; 0 by the template 'total and deterministic' (their statements: YthbhengcinkepaaGreatTotals.lean).
  GIVEN WITH THE SEED: the statements are not yours to turn. If you find one false, say at which input.
  Laid BY PROGRAM, IN A SANDBOX (cutbox-rows.mjs): the forced cells as the released guide's own fill.sh prints them over the translation 212e78e4226099ff… (all of the seat's roots in one cut). By AI agents, Wed Nov 11 2026. No macro, syntax, notation, axiom, sorry.
-/
import Derived.Test.YthbhengcinkepaaGreatChecked
import GoSem.Claim
import GoSem.ClaimJoined
import GoSem.ClaimMapViews
import Derived.JoinedTies
import Derived.KernelRfl
namespace Go.Proofs.YthbhengcinkepaaGreat
/- THE CELL 'sum', in the pinned program and in every row, IS THE sha256 OF THE DUMP (.gsa) THAT YthbhengcinkepaaGreatProg.lean LOADS. Nothing in Lean hashes anything: it is a label: what it is worth is what the hold of that sum in a sandbox is worth. -/
noncomputable def Tryz.pinned : Pinned := { name := "ythbhengcinkepaagreat", sum := "212e78e4226099ff2f25a5b68aba7f05e20a6e2d22ad8d1adbe3e0818cf3c225", checked := Tryz.checked }
namespace Rows
def none {H : Type} : Left H := { results := [], args := [] }

/-- 'bibelotlaw02.PegChecks': WHATEVER THE INPUT: true; the input reads as it did. -/
def pegChecksSpec : ChangeSpec := { name := "pegChecks", fn := fun _ => fun
  | [d1, d2, d3] => { results := [.lit (.bool true)], args := [d1, d2, d3] }
  | _ => none }
def pegChecksRow : OpenClaim := { program := "ythbhengcinkepaagreat", sum := "212e78e4226099ff2f25a5b68aba7f05e20a6e2d22ad8d1adbe3e0818cf3c225", func := "bibelot/bibelotlaw02.PegChecks", spec := "pegChecks", unfollowed := true, recurses := true, apart := false }
def PegChecksSaid : Prop := pegChecksRow.holds Tryz.pinned (OpenSpec.ofChange pegChecksSpec)

/-- ITS FALSE NEIGHBOUR: 'it returns false'. Refute it at one input. -/
def pegChecksWrong : ChangeSpec := { name := "pegChecks", fn := fun _ => fun
  | [d1, d2, d3] => { results := [.lit (.bool false)], args := [d1, d2, d3] }
  | _ => none }
def PegChecksWrongFalsely : Prop := pegChecksRow.holds Tryz.pinned (OpenSpec.ofChange pegChecksWrong)

/-- 'bibelotlaw02.PegPlaces': WHATEVER THE INPUT: true; the input reads as it did. -/
def pegPlacesSpec : ChangeSpec := { name := "pegPlaces", fn := fun _ => fun
  | [d1, d2, d3] => { results := [.lit (.bool true)], args := [d1, d2, d3] }
  | _ => none }
def pegPlacesRow : OpenClaim := { program := "ythbhengcinkepaagreat", sum := "212e78e4226099ff2f25a5b68aba7f05e20a6e2d22ad8d1adbe3e0818cf3c225", func := "bibelot/bibelotlaw02.PegPlaces", spec := "pegPlaces", unfollowed := true, recurses := true, apart := false }
def PegPlacesSaid : Prop := pegPlacesRow.holds Tryz.pinned (OpenSpec.ofChange pegPlacesSpec)

/-- ITS FALSE NEIGHBOUR: 'it returns false'. Refute it at one input. -/
def pegPlacesWrong : ChangeSpec := { name := "pegPlaces", fn := fun _ => fun
  | [d1, d2, d3] => { results := [.lit (.bool false)], args := [d1, d2, d3] }
  | _ => none }
def PegPlacesWrongFalsely : Prop := pegPlacesRow.holds Tryz.pinned (OpenSpec.ofChange pegPlacesWrong)

/-- 'bibelotlaw02.PegCounts': WHATEVER THE INPUT: true; the input reads as it did. -/
def pegCountsSpec : ChangeSpec := { name := "pegCounts", fn := fun _ => fun
  | [d1, d2, d3] => { results := [.lit (.bool true)], args := [d1, d2, d3] }
  | _ => none }
def pegCountsRow : OpenClaim := { program := "ythbhengcinkepaagreat", sum := "212e78e4226099ff2f25a5b68aba7f05e20a6e2d22ad8d1adbe3e0818cf3c225", func := "bibelot/bibelotlaw02.PegCounts", spec := "pegCounts", unfollowed := true, recurses := true, apart := false }
def PegCountsSaid : Prop := pegCountsRow.holds Tryz.pinned (OpenSpec.ofChange pegCountsSpec)

/-- ITS FALSE NEIGHBOUR: 'it returns false'. Refute it at one input. -/
def pegCountsWrong : ChangeSpec := { name := "pegCounts", fn := fun _ => fun
  | [d1, d2, d3] => { results := [.lit (.bool false)], args := [d1, d2, d3] }
  | _ => none }
def PegCountsWrongFalsely : Prop := pegCountsRow.holds Tryz.pinned (OpenSpec.ofChange pegCountsWrong)

/- THE SECOND FORM. 'bulk': how many values and letters a reading holds, each counted each time it is reached (what is shared counts as often as it is met; a slice's spare places count too). A statement '..UptoSaid' is the law's where the arguments, and the package variables that the reading takes, are together of bulk at most 1048576: NARROWER than '..Said'. Prove '..Said' where nothing that the law and all that it calls make is longer than what came in: it says more and counts as full. Else prove '..UptoSaid'. A law counts once. -/
mutual
def uptoBulk {H : Type} : DataW H → Nat
  | .lit (.string bytes) => bytes.length + 1
  | .lit _ => 1
  | .nil => 1
  | .ptr d => uptoBulk d + 1
  | .slice elems spare => uptoBulkAll elems + uptoBulkAll spare + 1
  | .agg parts => uptoBulkAll parts + 1
  | .iface _ d => uptoBulk d + 1
  | .map entries => uptoBulkEntries entries + 1
  | .held _ => 1
def uptoBulkAll {H : Type} : List (DataW H) → Nat
  | [] => 0
  | d :: r => uptoBulk d + uptoBulkAll r
def uptoBulkEntries {H : Type} : List (Lit × DataW H) → Nat
  | [] => 0
  | x :: r => uptoBulkEntry x + uptoBulkEntries r
def uptoBulkEntry {H : Type} : Lit × DataW H → Nat
  | (.string bytes, d) => bytes.length + uptoBulk d + 1
  | (_, d) => uptoBulk d + 1
 end
def uptoSmall : (H : Type) → List (DataW H) → Bool := fun _ ds => decide (uptoBulkAll ds ≤ 1048576)
def OpenSpec.upto (s : _root_.Go.ChangeSpec) : _root_.Go.OpenSpec := { _root_.Go.OpenSpec.ofChange s with cond := some uptoSmall }

/-- 'bibelotlaw02.PegChecks', WHERE WHAT IT READS IS OF BULK AT MOST 1048576: true; the input reads as it did. -/
def pegChecksUptoRow : OpenClaim := { program := "ythbhengcinkepaagreat", sum := "212e78e4226099ff2f25a5b68aba7f05e20a6e2d22ad8d1adbe3e0818cf3c225", func := "bibelot/bibelotlaw02.PegChecks", spec := "pegChecks", unfollowed := true, recurses := true, apart := false, narrowed := true }
def PegChecksUptoSaid : Prop := pegChecksUptoRow.holds Tryz.pinned (OpenSpec.upto pegChecksSpec)

/-- 'bibelotlaw02.PegPlaces', WHERE WHAT IT READS IS OF BULK AT MOST 1048576: true; the input reads as it did. -/
def pegPlacesUptoRow : OpenClaim := { program := "ythbhengcinkepaagreat", sum := "212e78e4226099ff2f25a5b68aba7f05e20a6e2d22ad8d1adbe3e0818cf3c225", func := "bibelot/bibelotlaw02.PegPlaces", spec := "pegPlaces", unfollowed := true, recurses := true, apart := false, narrowed := true }
def PegPlacesUptoSaid : Prop := pegPlacesUptoRow.holds Tryz.pinned (OpenSpec.upto pegPlacesSpec)

/-- 'bibelotlaw02.PegCounts', WHERE WHAT IT READS IS OF BULK AT MOST 1048576: true; the input reads as it did. -/
def pegCountsUptoRow : OpenClaim := { program := "ythbhengcinkepaagreat", sum := "212e78e4226099ff2f25a5b68aba7f05e20a6e2d22ad8d1adbe3e0818cf3c225", func := "bibelot/bibelotlaw02.PegCounts", spec := "pegCounts", unfollowed := true, recurses := true, apart := false, narrowed := true }
def PegCountsUptoSaid : Prop := pegCountsUptoRow.holds Tryz.pinned (OpenSpec.upto pegCountsSpec)

end Rows
end Go.Proofs.YthbhengcinkepaaGreat
