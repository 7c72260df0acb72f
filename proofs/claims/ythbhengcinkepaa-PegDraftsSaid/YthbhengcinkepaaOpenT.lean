/- Opening an argument that is a list of lines: slices of triples of integers. -/
import Derived.Test.YthbhengcinkepaaOpen
import Derived.Test.YthbhengcinkepaaTri
import Derived.WideKeyPair
namespace Go.Proofs.Ythbhengcinkepaa
open Go.ChangeShapes Go.WideShapes Go.ChangeAt Go.RowKit Go.Deep Go.WideMaps

theorem Try.arrTwo41 : ArrKey Try.prog 41 3 2 := ⟨Try.underlying41, by kernel_rfl, by kernel_rfl, by kernel_rfl⟩
theorem Try.cells30 : Try.prog.cellsOf 30 = 3 := by kernel_rfl

section
variable {H : Type} {enc : TypeId × Value → H} {W : World} {base : Nat} {v : Value} {d : DataW H} {p : List MemPlace}

set_option maxRecDepth 100000 in
/-- The cells of an element that is a triple. -/
theorem tri_cells {b : Nat} {sp : Nat → Bool} {held : Bool} {n : Nat} {a : Addr} {x : DataW H × List MemPlace} (h : (W.cells? b a 3).bind (DataW.trod enc Try.prog W b sp held n 30) = some x) :
    ∃ y z u : Int, W.cell? (a.add 0) = some (.int .i64 y) ∧ W.cell? (a.add 1) = some (.int .i64 z) ∧ W.cell? (a.add 2) = some (.int .i64 u) := by
  obtain ⟨cs, hc, ht⟩ := Option.bind_eq_some_iff.1 h
  obtain ⟨_, hl, hat⟩ := World.cells?_some hc
  obtain ⟨xs, m, _, _, _, hxl, hx⟩ := DataW.trod_array Try.underlying30 ht
  obtain ⟨c0, c1, c2, rfl⟩ : ∃ c0 c1 c2, cs = [c0, c1, c2] := by
    match cs, hl with
    | [c0, c1, c2], _ => exact ⟨c0, c1, c2, rfl⟩
  have h0 := hx 0 (by decide)
  have h1 := hx 1 (by decide)
  have h2 := hx 2 (by decide)
  rw [Try.cells3, List.getElem?_eq_getElem (by omega)] at h0 h1 h2
  obtain ⟨y, ey, _⟩ := DataW.trod_int Try.underlying3 h0
  obtain ⟨z, ez, _⟩ := DataW.trod_int Try.underlying3 h1
  obtain ⟨u, eu, _⟩ := DataW.trod_int Try.underlying3 h2
  have ey' : c0 = .int .i64 y := by simpa using ey
  have ez' : c1 = .int .i64 z := by simpa using ez
  have eu' : c2 = .int .i64 u := by simpa using eu
  subst ey' ez' eu'
  exact ⟨y, z, u, hat 0 (by decide), hat 1 (by decide), hat 2 (by decide)⟩

theorem lies_tris {w : World} {b off n : Nat} {y : Nat → Tri} (h : ∀ i, i < n → w.cell? ⟨b, off + i * 3, none⟩ = some (.int .i64 (y i).1) ∧ w.cell? ⟨b, off + i * 3 + 1, none⟩ = some (.int .i64 (y i).2.1) ∧ w.cell? ⟨b, off + i * 3 + 2, none⟩ = some (.int .i64 (y i).2.2)) :
    RTri w w.heap.size (some ⟨b, off, none⟩) ((List.range n).map y) := fun j u hu => by
  have hlen : (triV ((List.range n).map y)).length = n * 3 := by rw [triV_len]; simp
  have hj : j < n * 3 := by
    have := (List.getElem?_eq_some_iff.1 hu).1
    omega
  obtain ⟨k, hk, hkn⟩ : ∃ k, (j = 3 * k ∨ j = 3 * k + 1 ∨ j = 3 * k + 2) ∧ k < n := ⟨j / 3, by omega, by omega⟩
  have hl : ((List.range n).map y)[k]? = some (y k) := by simp [hkn]
  obtain ⟨e0, e1, e2⟩ := triV_at _ k _ hl
  obtain ⟨c0, c1, c2⟩ := h k hkn
  rcases hk with rfl | rfl | rfl
  · rw [e0] at hu
    cases hu
    rw [Nat.mul_comm k 3] at c0
    exact ⟨b, off, rfl, World.block_lt_of_cell? w _ c0, c0⟩
  · rw [e1] at hu
    cases hu
    rw [Nat.mul_comm k 3, Nat.add_assoc] at c1
    exact ⟨b, off, rfl, World.block_lt_of_cell? w _ c1, c1⟩
  · rw [e2] at hu
    cases hu
    rw [Nat.mul_comm k 3, Nat.add_assoc] at c2
    exact ⟨b, off, rfl, World.block_lt_of_cell? w _ c2, c2⟩

set_option maxRecDepth 100000 in
/-- An argument of type [][3]int. -/
theorem open_tris (hv : Value.okWide Try.prog W .any base 22 v) (h : DataW.Trod enc Try.prog W 0 (fun _ => true) true 22 v d p) :
    ∃ (A : Option Addr) (l : List Tri) (c : Nat), v = .slice A l.length c ∧ l.length ≤ c ∧ l.length ≤ 9223372036854775807 ∧ RTri W W.heap.size A l := by
  obtain ⟨a0, len, cap, rfl⟩ := okWide_slice Try.underlying22 hv
  obtain ⟨fuel, hf⟩ := h
  rcases DataW.trod_slice Try.underlying22 hf with ⟨hcs, _⟩ | ⟨a, len', cap', elems, rest, n, _, hcs, _, _, hl, hm, hlen, hel, _, _⟩
  · have e : Value.slice a0 len cap = .slice none 0 0 := (List.cons.inj hcs).1
    rw [e]
    exact ⟨none, [], 0, rfl, Nat.zero_le _, by simp, fun j u hu => by simp [triV] at hu⟩
  · have e : Value.slice a0 len cap = .slice (some a) len' cap' := (List.cons.inj hcs).1
    rw [e]
    unfold maxLen at hm
    have each : ∀ i, i < len' → ∃ y : Tri, W.cell? ((a.add (i * 3)).add 0) = some (.int .i64 y.1) ∧ W.cell? ((a.add (i * 3)).add 1) = some (.int .i64 y.2.1) ∧ W.cell? ((a.add (i * 3)).add 2) = some (.int .i64 y.2.2) := by
      intro i hi
      have h1 := hel i hi
      rw [Try.cells30, List.getElem?_eq_getElem (by omega)] at h1
      obtain ⟨y, z, u, hy, hz, hu⟩ := tri_cells h1
      exact ⟨(y, z, u), hy, hz, hu⟩
    obtain ⟨y, hy⟩ := choose_lt each
    obtain ⟨b, off, spot⟩ := a
    by_cases h0 : len' = 0
    · subst h0
      exact ⟨_, [], cap', rfl, Nat.zero_le _, by simp, fun j u hu => by simp [triV] at hu⟩
    · have hs := World.cell?_spot (hy 0 (by omega)).1
      have hspot : spot = none := by simpa [Addr.add] using hs
      subst hspot
      refine ⟨some ⟨b, off, none⟩, (List.range len').map y, cap', by simp, by simpa using hl, by simp; omega, lies_tris fun i hi => ?_⟩
      obtain ⟨c0, c1, c2⟩ := hy i hi
      rw [add_plain, add_plain] at c0 c1 c2
      exact ⟨by simpa using c0, c1, c2⟩
end
end Go.Proofs.Ythbhengcinkepaa
