/- Words for lists of pairs that are read. -/
import Derived.Test.YtkkholagmjcgiaaPairs
import Derived.Test.YtkkholagmjcgiaaInts
import Derived.Test.YtkkholagmjcgiaaSums
namespace Go.Proofs.Ytkkholagmjcgiaa
open Go.RowKit Go.Shelf

/-- A list of pairs of slices reads as the list. -/
def RPairs (w : World) (B : Nat) (A : Option Addr) (F : List (List Int × List Int)) : Prop :=
  ∀ (i : Nat) (q : List Int × List Int), F[i]? = some q → ∃ g ax cx ay cy, A = some ⟨g, 0, none⟩ ∧ g < B ∧ w.cell? ⟨g, i * 2, none⟩ = some (.slice ax q.1.length cx) ∧ w.cell? ⟨g, i * 2 + 1, none⟩ = some (.slice ay q.2.length cy) ∧
    q.1.length ≤ cx ∧ q.2.length ≤ cy ∧ RInts w B ax q.1 ∧ RInts w B ay q.2
theorem RPairs.below {w w' : World} {B : Nat} {A : Option Addr} {F : List (List Int × List Int)} (h : RPairs w B A F) (hb : Below B w w') : RPairs w' B A F := fun i q hq => by
  obtain ⟨g, ax, cx, ay, cy, e, hg, h1, h2, h3, h4, h5, h6⟩ := h i q hq
  exact ⟨g, ax, cx, ay, cy, e, hg, (hb.cell (p := ⟨g, i * 2, none⟩) hg).trans h1, (hb.cell (p := ⟨g, i * 2 + 1, none⟩) hg).trans h2, h3, h4, h5.below hb, h6.below hb⟩
theorem RPairs.more {w : World} {B B' : Nat} {A : Option Addr} {F : List (List Int × List Int)} (h : RPairs w B A F) (hB : B ≤ B') : RPairs w B' A F := fun i q hq => by
  obtain ⟨g, ax, cx, ay, cy, e, hg, h1, h2, h3, h4, h5, h6⟩ := h i q hq
  exact ⟨g, ax, cx, ay, cy, e, by omega, h1, h2, h3, h4, h5.more hB, h6.more hB⟩

theorem OutOk.reads {Z : Nat → Prop} {w : World} {fv : Value} {F : List (List Int × List Int)} (h : OutOk Z w fv F) (hpos : 1 ≤ F.length) : ∃ g k, fv = .slice (some ⟨g, 0, none⟩) F.length k ∧ RPairs w w.heap.size (some ⟨g, 0, none⟩) F := by
  obtain ⟨vs, hl, h1, _, h3⟩ := h
  obtain ⟨g, k, e, _, hg, hc⟩ := own2_cells h1 hpos
  refine ⟨g, k, e, fun i q hq => ?_⟩
  have hi : i < vs.length := by rw [hl]; exact (List.getElem?_eq_some_iff.1 hq).1
  have hp : vs[i]? = some vs[i] := List.getElem?_eq_getElem hi
  obtain ⟨c1, c2⟩ := h3 i _ q hp hq
  obtain ⟨g1, k1, e1, _, o1⟩ := c1
  obtain ⟨g2, k2, e2, _, o2⟩ := c2
  obtain ⟨f1, f2⟩ := flat2 (fun p : Value × Value => p.1) (fun p => p.2) vs i _ hp
  exact ⟨g, some ⟨g1, 0, none⟩, k1, some ⟨g2, 0, none⟩, k2, rfl, hg, by rw [hc _ _ f1, e1], by rw [hc _ _ f2, e2], o1.cap, o2.cap, o1.reads, o2.reads⟩

end Go.Proofs.Ytkkholagmjcgiaa
