/- Opening arguments that are structs: a position and jumps; two positions and weights. And an array of three integers. -/
import Derived.Test.YthbhengcinkepaaOpenT
import Derived.Deep.Strs
import Derived.Lib.SmallJoins
namespace Go.Proofs.Ythbhengcinkepaa
open Go.ChangeShapes Go.WideShapes Go.ChangeAt Go.RowKit Go.Deep Go.WideMaps

section
variable {H : Type} {enc : TypeId × Value → H} {W : World} {base : Nat} {v : Value} {d : DataW H} {p : List MemPlace}

set_option maxRecDepth 100000 in
/-- The cell of a slice of triples. -/
theorem tris_of {fuel : Nat} {cs : List Value} {x : DataW H × List MemPlace} (hf : DataW.trod enc Try.prog W 0 (fun _ => true) true fuel 22 cs = some x) :
    ∃ (A : Option Addr) (l : List Tri) (c : Nat), cs = [.slice A l.length c] ∧ l.length ≤ c ∧ l.length ≤ 9223372036854775807 ∧ RTri W W.heap.size A l := by
  rcases DataW.trod_slice Try.underlying22 hf with ⟨hcs, _⟩ | ⟨a, len', cap', elems, rest, n, _, hcs, _, _, hl, hm, hlen, hel, _, _⟩
  · exact ⟨none, [], 0, hcs, Nat.zero_le _, by simp, fun j u hu => by simp [triV] at hu⟩
  · rw [hcs]
    unfold maxLen at hm
    have each : ∀ i, i < len' → ∃ y : Tri, W.cell? ((a.add (i * 3)).add 0) = some (.int .i64 y.1) ∧ W.cell? ((a.add (i * 3)).add 1) = some (.int .i64 y.2.1) ∧ W.cell? ((a.add (i * 3)).add 2) = some (.int .i64 y.2.2) := by
      intro i hi
      have h1 := hel i hi
      rw [Try.cells30, List.getElem?_eq_getElem (by omega)] at h1
      obtain ⟨y, z, u, hy, hz, hu⟩ := tri_cells h1
      exact ⟨(y, z, u), hy, hz, hu⟩
    obtain ⟨y, hy⟩ := choose_lt each
    obtain ⟨b, off, spot⟩ := a
    by_cases h0 : len' = 0
    · subst h0
      exact ⟨_, [], cap', rfl, Nat.zero_le _, by simp, fun j u hu => by simp [triV] at hu⟩
    · have hs := World.cell?_spot (hy 0 (by omega)).1
      have hspot : spot = none := by simpa [Addr.add] using hs
      subst hspot
      refine ⟨some ⟨b, off, none⟩, (List.range len').map y, cap', by simp, by simpa using hl, by simp; omega, lies_tris fun i hi => ?_⟩
      obtain ⟨c0, c1, c2⟩ := hy i hi
      rw [add_plain, add_plain] at c0 c1 c2
      exact ⟨by simpa using c0, c1, c2⟩

set_option maxRecDepth 100000 in
/-- The cell of a slice of integers. -/
theorem die_of {fuel : Nat} {cs : List Value} {x : DataW H × List MemPlace} (hf : DataW.trod enc Try.prog W 0 (fun _ => true) true fuel 47 cs = some x) :
    ∃ (A : Option Addr) (zs : List Int) (c : Nat), cs = [.slice A zs.length c] ∧ zs.length ≤ c ∧ zs.length ≤ 9223372036854775807 ∧ RInts W W.heap.size A zs := by
  rcases open_ints Try.underlying47 Try.underlying3 Try.cells3 hf with ⟨hcs, _⟩ | ⟨a, len', cap', zs, hcs, _, hl, hm, hz, _, hcell, _⟩
  · exact ⟨none, [], 0, hcs, Nat.zero_le _, by simp, RInts.nil_⟩
  · simp only [if_true] at hz
    have hlz : (zs.take len').length = len' := by rw [List.length_take]; omega
    unfold maxLen at hm
    exact ⟨some a, zs.take len', cap', by rw [hlz]; exact hcs, by omega, by omega, rints_of_cells hcell⟩

set_option maxRecDepth 100000 in
/-- An argument that is a position and jumps. -/
theorem open_task (hv : Value.okWide Try.prog W .any base 34 v) (h : DataW.Trod enc Try.prog W 0 (fun _ => true) true 34 v d p) :
    ∃ (x : Int) (A : Option Addr) (l : List Tri) (c : Nat), v = .agg #[.int .i64 x, .slice A l.length c] ∧ l.length ≤ c ∧ l.length ≤ 9223372036854775807 ∧ RTri W W.heap.size A l := by
  obtain ⟨cs, rfl, hsz⟩ := okWide_struct Try.underlying34 hv
  obtain ⟨fuel, hf⟩ := h
  obtain ⟨y0, y1, n, _, hl, h0, h1⟩ := trod_struct2 Try.underlying34 hf
  rw [show Try.prog.cellsOf 34 = 2 by kernel_rfl] at hsz
  obtain ⟨c0, c1, rfl⟩ : ∃ c0 c1, cs = #[c0, c1] := by
    obtain ⟨cs⟩ := cs
    match cs, hsz with
    | [c0, c1], _ => exact ⟨c0, c1, rfl⟩
  simp only [Value.cells, Try.cells3, show Try.prog.cellsOf 22 = 1 by kernel_rfl] at h0 h1
  obtain ⟨x, ex, _⟩ := DataW.trod_int Try.underlying3 h0
  obtain ⟨A, l, c, el, h2, h3, h4⟩ := tris_of h1
  have ex' : c0 = .int .i64 x := by simpa using ex
  have el' : c1 = .slice A l.length c := by simpa using el
  subst ex' el'
  exact ⟨x, A, l, c, rfl, h2, h3, h4⟩

set_option maxRecDepth 100000 in
/-- An argument that is two positions and weights. -/
theorem open_load (hv : Value.okWide Try.prog W .any base 59 v) (h : DataW.Trod enc Try.prog W 0 (fun _ => true) true 59 v d p) :
    ∃ (x y : Int) (A : Option Addr) (l : List Int) (c : Nat), v = .agg #[.int .i64 x, .int .i64 y, .slice A l.length c] ∧ l.length ≤ c ∧ l.length ≤ 9223372036854775807 ∧ RInts W W.heap.size A l := by
  obtain ⟨cs, rfl, hsz⟩ := okWide_struct Try.underlying59 hv
  obtain ⟨fuel, hf⟩ := h
  obtain ⟨y0, y1, y2, n, _, hl, h0, h1, h2⟩ := trod_struct3 Try.underlying59 hf
  rw [show Try.prog.cellsOf 59 = 3 by kernel_rfl] at hsz
  obtain ⟨c0, c1, c2, rfl⟩ : ∃ c0 c1 c2, cs = #[c0, c1, c2] := by
    obtain ⟨cs⟩ := cs
    match cs, hsz with
    | [c0, c1, c2], _ => exact ⟨c0, c1, c2, rfl⟩
  simp only [Value.cells, Try.cells3, show Try.prog.cellsOf 47 = 1 by kernel_rfl] at h0 h1 h2
  obtain ⟨x, ex, _⟩ := DataW.trod_int Try.underlying3 h0
  obtain ⟨y, ey, _⟩ := DataW.trod_int Try.underlying3 h1
  obtain ⟨A, l, c, el, h3, h4, h5⟩ := die_of h2
  have ex' : c0 = .int .i64 x := by simpa using ex
  have ey' : c1 = .int .i64 y := by simpa using ey
  have el' : c2 = .slice A l.length c := by simpa using el
  subst ex' ey' el'
  exact ⟨x, y, A, l, c, rfl, h3, h4, h5⟩

set_option maxRecDepth 100000 in
/-- An argument that is an array of three integers. -/
theorem open_three (hv : Value.okWide Try.prog W .any base 30 v) (h : DataW.Trod enc Try.prog W 0 (fun _ => true) true 30 v d p) :
    ∃ (x y z : Int), v = .agg #[.int .i64 x, .int .i64 y, .int .i64 z] := by
  obtain ⟨cs, rfl, hsz⟩ : ∃ cs, v = .agg cs ∧ cs.size = 3 := by
    simp only [Value.okWide, Try.underlying30, Try.cells30] at hv
    obtain ⟨cs, h1, h2, _⟩ := hv
    exact ⟨cs, h1, h2⟩
  obtain ⟨fuel, hf⟩ := h
  obtain ⟨xs, m, _, _, _, hxl, hx⟩ := DataW.trod_array Try.underlying30 hf
  obtain ⟨c0, c1, c2, rfl⟩ : ∃ c0 c1 c2, cs = #[c0, c1, c2] := by
    obtain ⟨cs⟩ := cs
    match cs, hsz with
    | [c0, c1, c2], _ => exact ⟨c0, c1, c2, rfl⟩
  have h0 := hx 0 (by decide)
  have h1 := hx 1 (by decide)
  have h2 := hx 2 (by decide)
  rw [Try.cells3, List.getElem?_eq_getElem (by omega)] at h0 h1 h2
  obtain ⟨y, ey, _⟩ := DataW.trod_int Try.underlying3 h0
  obtain ⟨z, ez, _⟩ := DataW.trod_int Try.underlying3 h1
  obtain ⟨u, eu, _⟩ := DataW.trod_int Try.underlying3 h2
  have ey' : c0 = .int .i64 y := by simpa [Value.cells] using ey
  have ez' : c1 = .int .i64 z := by simpa [Value.cells] using ez
  have eu' : c2 = .int .i64 u := by simpa [Value.cells] using eu
  subst ey' ez' eu'
  exact ⟨y, z, u, rfl⟩
end
end Go.Proofs.Ythbhengcinkepaa
