/- How the statements' arguments, lists and lists of lists of integers, lie in memory. -/
import Derived.Test.YtkkholagmjcgiaaMem
import Derived.Test.YtkkholagmjcgiaaLater
import Derived.Deep.Matrix
namespace Go.Proofs.Ytkkholagmjcgiaa
open Go.ChangeShapes Go.WideShapes Go.ChangeAt Go.RowKit Go.Deep

theorem Try.cells3 : Try.prog.cellsOf 3 = 1 := by kernel_rfl
theorem Try.cells36 : Try.prog.cellsOf 36 = 1 := by kernel_rfl

/-- Cells that hold integers are a list to be read. -/
theorem rints_of_cells {w : World} {a : Addr} {zs : List Int} {n : Nat} (h : ∀ i, i < zs.length → w.cell? (a.add i) = some (.int .i64 (zs.getD i 0))) : RInts w w.heap.size (some a) (zs.take n) := fun j u hu => by
  rw [List.getElem?_map] at hu
  obtain ⟨x, hx, rfl⟩ := Option.map_eq_some_iff.1 hu
  rw [List.getElem?_take] at hx
  split at hx
  · have hj : j < zs.length := (List.getElem?_eq_some_iff.1 hx).1
    obtain ⟨b, off, rfl, hc⟩ := ints_at h (by omega)
    have h2 := hc j hj
    have e : zs.getD j 0 = x := by simp [List.getD, hx]
    rw [e] at h2
    exact ⟨b, off, rfl, World.block_lt_of_cell? w _ h2, h2⟩
  · cases hx

section
variable {H : Type} {enc : TypeId × Value → H} {W : World} {base : Nat} {v : Value} {d : DataW H} {p : List MemPlace}

set_option maxRecDepth 100000 in
/-- An argument of type []int. -/
theorem open_die (hv : Value.okWide Try.prog W .any base 36 v) (h : DataW.Trod enc Try.prog W 0 (fun _ => true) true 36 v d p) :
    ∃ (A : Option Addr) (zs : List Int) (c : Nat), v = .slice A zs.length c ∧ zs.length ≤ c ∧ zs.length ≤ 9223372036854775807 ∧ RInts W W.heap.size A zs := by
  obtain ⟨a0, len, cap, rfl⟩ := okWide_slice Try.underlying36 hv
  obtain ⟨fuel, hf⟩ := h
  rcases open_ints Try.underlying36 Try.underlying3 Try.cells3 hf with ⟨hcs, _⟩ | ⟨a, len', cap', zs, hcs, _, hl, hm, hz, _, hcell, _⟩
  · have e : Value.slice a0 len cap = .slice none 0 0 := (List.cons.inj hcs).1
    rw [e]
    exact ⟨none, [], 0, rfl, Nat.zero_le _, by simp, RInts.nil_⟩
  · have e : Value.slice a0 len cap = .slice (some a) len' cap' := (List.cons.inj hcs).1
    rw [e]
    simp only [if_true] at hz
    have hlz : (zs.take len').length = len' := by rw [List.length_take]; omega
    unfold maxLen at hm
    exact ⟨some a, zs.take len', cap', by rw [hlz], by omega, by omega, rints_of_cells hcell⟩

set_option maxRecDepth 100000 in
/-- An argument of type [][]int. -/
theorem open_dice (hv : Value.okWide Try.prog W .any base 22 v) (h : DataW.Trod enc Try.prog W 0 (fun _ => true) true 22 v d p) :
    ∃ (A : Option Addr) (ds : List (List Int)) (c : Nat), v = .slice A ds.length c ∧ ds.length ≤ c ∧ ds.length ≤ 9223372036854775807 ∧ RDice W W.heap.size A ds ∧ ∀ x ∈ ds, x.length ≤ 9223372036854775807 := by
  obtain ⟨a0, len, cap, rfl⟩ := okWide_slice Try.underlying22 hv
  obtain ⟨fuel, hf⟩ := h
  rcases open_int_rows Try.underlying22 Try.underlying36 Try.underlying3 Try.cells36 Try.cells3 hf with ⟨hcs, _⟩ | ⟨a, len', cap', A, L, C, Z, hcs, _, hl, hm, _, hrow⟩
  · have e : Value.slice a0 len cap = .slice none 0 0 := (List.cons.inj hcs).1
    rw [e]
    exact ⟨none, [], 0, rfl, Nat.zero_le _, by simp, RDice.nil_, fun x hx => by cases hx⟩
  · have e : Value.slice a0 len cap = .slice (some a) len' cap' := (List.cons.inj hcs).1
    rw [e]
    unfold maxLen at hm
    have hds : ((List.range len').map fun r => (Z r).take (L r)).length = len' := by simp
    have hzl : ∀ r, r < len' → ((Z r).take (L r)).length = L r := fun r hr => by
      obtain ⟨_, h2, _, h4, _⟩ := hrow r (by omega)
      rw [List.length_take]
      omega
    refine ⟨some a, (List.range len').map fun r => (Z r).take (L r), cap', by rw [hds], by omega, by omega, ⟨(List.range len').map fun r => .slice (A r) (L r) (C r), by simp, fun j u hu => ?_, fun i v x hv hx => ?_⟩, fun x hx => ?_⟩
    · rw [List.getElem?_map] at hu
      obtain ⟨r, hr, rfl⟩ := Option.map_eq_some_iff.1 hu
      obtain ⟨hj, rfl⟩ : j < len' ∧ r = j := by
        obtain ⟨h1, h2⟩ := List.getElem?_eq_some_iff.1 hr
        simp at h1 h2
        exact ⟨h1, h2.symm⟩
      have h0 := (hrow 0 (by omega)).1
      have h1 := (hrow r (by omega)).1
      obtain ⟨b, off, spot⟩ := a
      have hspot : spot = none := by simpa [Addr.add] using World.cell?_spot h0
      subst hspot
      rw [add_plain] at h1
      exact ⟨b, off, rfl, World.block_lt_of_cell? W _ h1, h1⟩
    · rw [List.getElem?_map] at hv hx
      obtain ⟨r, hr, rfl⟩ := Option.map_eq_some_iff.1 hv
      obtain ⟨r', hr', rfl⟩ := Option.map_eq_some_iff.1 hx
      rw [hr] at hr'
      cases hr'
      have hj : r < len' := by
        obtain ⟨h1, h2⟩ := List.getElem?_eq_some_iff.1 hr
        simp at h1 h2
        omega
      obtain ⟨h1, h2, h3, h4, h5, h6, h7⟩ := hrow r (by omega)
      refine ⟨A r, C r, by rw [hzl r hj], by rw [hzl r hj]; exact h2, ?_⟩
      cases hA : A r with
      | none =>
        have h0 := h6 hA
        have hn : (Z r).take (L r) = [] := List.eq_nil_of_length_eq_zero (by rw [hzl r hj]; omega)
        rw [hn]
        exact RInts.nil_
      | some a' => exact rints_of_cells (fun i hi => (h7 a' hA).2 i (by omega))
    · obtain ⟨r, hr, rfl⟩ := List.mem_map.1 hx
      have hj : r < len' := List.mem_range.1 hr
      obtain ⟨_, h2, h3, _⟩ := hrow r (by omega)
      unfold maxLen at h3
      rw [hzl r hj]
      omega
end

end Go.Proofs.Ytkkholagmjcgiaa
