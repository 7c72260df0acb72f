/- A table of bools in memory of one's own: a row of slices, each with a row of its own. And the method turned of duels. -/
import Derived.Test.YtkkholagmjcgiaaCompare
import Derived.Test.YtkkholagmjcgiaaWinner
namespace Go.Proofs.Ytkkholagmjcgiaa
open Go.RowKit Go.Shelf

def tabCells (n m : Nat) (g : Nat → Nat) : Array Value := (Array.range n).map fun a => if a < m then .slice (some ⟨g a, 0, none⟩) n n else .slice none 0 0
def rowCells (n : Nat) (f : Nat → Bool) : Array Value := (Array.range n).map fun b => .bool (f b)

theorem tabCells_at {n m : Nat} {g : Nat → Nat} {a : Nat} (ha : a < n) : (tabCells n m g)[a]? = some (if a < m then .slice (some ⟨g a, 0, none⟩) n n else .slice none 0 0) := by simp [tabCells, ha]
theorem rowCells_at {n : Nat} {f : Nat → Bool} {b : Nat} (hb : b < n) : (rowCells n f)[b]? = some (.bool (f b)) := by simp [rowCells, hb]

structure Tab (w : World) (T n m : Nat) (g : Nat → Nat) (f : Nat → Nat → Bool) (B : Nat) : Prop where
  tb : Box w T 65 (tabCells n m g)
  rows : ∀ a, a < m → Box w (g a) 4 (rowCells n (f a))
  inj : ∀ a b, a < m → b < m → g a = g b → a = b
  lo : B ≤ T ∧ ∀ a, a < m → B ≤ g a

section
variable {w w' : World} {T n m B : Nat} {g : Nat → Nat} {f : Nat → Nat → Bool} {X : Nat → Prop}
theorem Tab.ne (h : Tab w T n m g f B) {a : Nat} (ha : a < m) : g a ≠ T := (h.rows a ha).ne h.tb (by decide)
theorem Tab.turn (h : Tab w T n m g f B) (hT : Turn X w w') (h1 : ¬ X T) (h2 : ∀ a, a < m → ¬ X (g a)) : Tab w' T n m g f B :=
  ⟨h.tb.turn hT h1, fun a ha => (h.rows a ha).turn hT (h2 a ha), h.inj, h.lo⟩
theorem Tab.below {k : Nat} (h : Tab w T n m g f B) (hb : Below k w w') (hk : w.heap.size ≤ k) : Tab w' T n m g f B :=
  ⟨h.tb.below hb (by have := h.tb.lt; omega), fun a ha => (h.rows a ha).below hb (by have := (h.rows a ha).lt; omega), h.inj, h.lo⟩
theorem Tab.alloc (h : Tab w T n m g f B) (o : Obj) : Tab (w.alloc o) T n m g f B := ⟨h.tb.alloc _, fun a ha => (h.rows a ha).alloc _, h.inj, h.lo⟩
theorem Tab.drewN (h : Tab w T n m g f B) (k : Nat) : Tab (w.drewN k) T n m g f B := ⟨h.tb.drewN _, fun a ha => (h.rows a ha).drewN _, h.inj, h.lo⟩
theorem Tab.far (h : Tab w T n m g f B) {p : Addr} (h1 : p.block ≠ T) (h2 : ∀ a, a < m → p.block ≠ g a) (u : Value) : Tab (w.setCell p u) T n m g f B :=
  ⟨h.tb.far (Ne.symm h1) _, fun a ha => (h.rows a ha).far (Ne.symm (h2 a ha)) _, h.inj, h.lo⟩
theorem Tab.put (h : Tab w T n m g f B) {a b : Nat} (ha : a < m) (hb : b < n) (v : Bool) : Tab (w.setCell ⟨g a, b, none⟩ (.bool v)) T n m g (fun x y => if x = a ∧ y = b then v else f x y) B := by
  refine ⟨h.tb.far (Ne.symm (h.ne ha)) _, fun x hx => ?_, h.inj, h.lo⟩
  by_cases e : x = a
  · subst e
    have h2 := (h.rows x hx).put b (.bool v)
    have e2 : (rowCells n (f x)).setIfInBounds b (.bool v) = rowCells n (fun y => if x = x ∧ y = b then v else f x y) := by
      apply Array.ext_getElem?
      intro j
      by_cases hj : j < n
      · rw [rowCells_at hj]
        by_cases hjb : j = b
        · subst hjb
          simp [rowCells, hj]
        · rw [Array.getElem?_setIfInBounds_ne (Ne.symm hjb), rowCells_at hj]
          simp [hjb]
      · simp [rowCells, hj]
    rw [e2] at h2
    exact h2
  · have h2 := (h.rows x hx).far (p := ⟨g a, b, none⟩) (fun e2 => e (h.inj x a hx ha e2)) (.bool v)
    have e2 : (fun y => if x = a ∧ y = b then v else f x y) = f x := by funext y; simp [e]
    show Box _ (g x) 4 (rowCells n (fun y => if x = a ∧ y = b then v else f x y))
    rw [e2]
    exact h2
theorem Tab.same {f' : Nat → Nat → Bool} (h : Tab w T n m g f B) (e : ∀ a b, a < m → b < n → f a b = f' a b) : Tab w T n m g f' B :=
  ⟨h.tb, fun a ha => by
    have e2 : rowCells n (f' a) = rowCells n (f a) := by
      apply Array.ext_getElem?
      intro j
      by_cases hj : j < n
      · rw [rowCells_at hj, rowCells_at hj, e a j ha hj]
      · simp [rowCells, hj]
    rw [e2]
    exact h.rows a ha, h.inj, h.lo⟩
/-- One row more. -/
theorem Tab.row (h : Tab w T n m g f B) {r : Nat} (hm : m < n) (hr : Box w r 4 (rowCells n (f m))) (hB : B ≤ r) (hne : ∀ a, a < m → g a ≠ r) :
    Tab (w.setCell ⟨T, m, none⟩ (.slice (some ⟨r, 0, none⟩) n n)) T n (m + 1) (fun a => if a = m then r else g a) f B := by
  have hrT : r ≠ T := hr.ne h.tb (by decide)
  refine ⟨?_, fun a ha => ?_, fun a b ha hb e => ?_, h.lo.1, fun a ha => ?_⟩
  · have h2 := h.tb.put m (.slice (some ⟨r, 0, none⟩) n n)
    have e2 : (tabCells n m g).setIfInBounds m (.slice (some ⟨r, 0, none⟩) n n) = tabCells n (m + 1) (fun a => if a = m then r else g a) := by
      apply Array.ext_getElem?
      intro j
      by_cases hj : j < n
      · rw [tabCells_at hj]
        by_cases hjm : j = m
        · subst hjm
          simp [tabCells, hj]
        · rw [Array.getElem?_setIfInBounds_ne (Ne.symm hjm), tabCells_at hj]
          simp only [hjm, if_false]
          by_cases hlt : j < m
          · rw [if_pos hlt, if_pos (by omega)]
          · rw [if_neg hlt, if_neg (by omega)]
      · simp [tabCells, hj]
    rw [e2] at h2
    exact h2
  · by_cases e : a = m
    · subst e
      simp only [if_true]
      exact hr.far hrT _
    · simp only [e, if_false]
      exact (h.rows a (by omega)).far (h.ne (by omega)) _
  · by_cases ea : a = m <;> by_cases eb : b = m <;> simp only [ea, eb, if_true, if_false] at e
    · omega
    · exact absurd e.symm (hne b (by omega))
    · exact absurd e (hne a (by omega))
    · exact h.inj a b (by omega) (by omega) e
  · by_cases e : a = m
    · simp only [e, if_true]; exact hB
    · simp only [e, if_false]; exact h.lo.2 a (by omega)

/-- The table as lists. -/
def tabL (n : Nat) (f : Nat → Nat → Bool) : List (List Bool) := (List.range n).map fun a => (List.range n).map (f a)
theorem tabL_square (n : Nat) (f : Nat → Nat → Bool) : Square (tabL n f) n := by
  refine ⟨by simp [tabL], fun r hr => ?_⟩
  simp [tabL] at hr
  obtain ⟨a, _, rfl⟩ := hr
  simp
theorem Tab.reads (h : Tab w T n n g f B) : RTab w w.heap.size (some ⟨T, 0, none⟩) (tabL n f) := by
  refine ⟨(List.range n).map fun a => .slice (some ⟨g a, 0, none⟩) n n, by simp [tabL], fun j u hu => ?_, fun i v r hv hr => ?_⟩
  · have hj : j < n := by have := (List.getElem?_eq_some_iff.1 hu).1; simpa using this
    refine ⟨T, 0, rfl, h.tb.lt, ?_⟩
    rw [Nat.zero_add, h.tb.cell j, tabCells_at hj, if_pos hj]
    rw [List.getElem?_map, List.getElem?_range hj] at hu
    simpa using hu
  · have hi : i < n := by have := (List.getElem?_eq_some_iff.1 hv).1; simpa using this
    rw [List.getElem?_map, List.getElem?_range hi] at hv
    simp only [tabL] at hr
    rw [List.getElem?_map, List.getElem?_range hi] at hr
    simp at hv hr
    subst hv hr
    refine ⟨some ⟨g i, 0, none⟩, n, by simp, fun j u hu => ?_⟩
    have hj : j < n := by have := (List.getElem?_eq_some_iff.1 hu).1; simpa using this
    refine ⟨g i, 0, rfl, (h.rows i hi).lt, ?_⟩
    rw [Nat.zero_add, (h.rows i hi).cell j, rowCells_at hj]
    rw [List.getElem?_map, List.getElem?_map, List.getElem?_range hj] at hu
    simpa using hu
end

theorem make_tab (n : Nat) (hn : n ≤ 1000) (g : Nat → Nat) : ∀ w : World, (Instr.makeSlice 37 (.int .i64 n) (.int .i64 n)).run Try.prog w = .ok (.slice (some ⟨w.heap.size, 0, none⟩) n n) (w.alloc (.cells (tabCells n 0 g) 65)) := by
  obtain ⟨i0, hi, hz0, hz1, hz2⟩ := info_parts (show (Try.prog.info? 65).map (fun i => (i.zero, i.size, i.bytes)) = some (some (.slice none 0 0), 1, 24) from by kernel_rfl)
  intro w
  have := run_make (P := Try.prog) w 37 65 i0 (.slice none 0 0) Try.underlying37 hi hz0 .i64 .i64 n n (by omega) (by omega) (by rw [hz2]; omega) (by omega)
  rw [hz1] at this
  have e : madeCells (Value.slice none 0 0).cells (n * 1) = tabCells n 0 g := by
    apply Array.ext_getElem?
    intro j
    by_cases hj : j < n
    · rw [tabCells_at hj]
      simp [madeCells, Value.cells, hj, Nat.mod_one]
    · simp [madeCells, tabCells, hj]
  rw [Nat.mul_one] at e
  simpa [e] using this
theorem make_row (n : Nat) (hn : n ≤ 1000) : ∀ w : World, (Instr.makeSlice 65 (.int .i64 n) (.int .i64 n)).run Try.prog w = .ok (.slice (some ⟨w.heap.size, 0, none⟩) n n) (w.alloc (.cells (rowCells n fun _ => false) 4)) := by
  obtain ⟨i0, hi, hz0, hz1, hz2⟩ := info_parts (show (Try.prog.info? 4).map (fun i => (i.zero, i.size, i.bytes)) = some (some (.bool false), 1, 1) from by kernel_rfl)
  intro w
  have := run_make (P := Try.prog) w 65 4 i0 (.bool false) Try.underlying65 hi hz0 .i64 .i64 n n (by omega) (by omega) (by rw [hz2]; omega) (by omega)
  rw [hz1] at this
  have e : madeCells (Value.bool false).cells (n * 1) = rowCells n fun _ => false := by
    apply Array.ext_getElem?
    intro j
    by_cases hj : j < n
    · rw [rowCells_at hj]
      simp [madeCells, Value.cells, hj, Nat.mod_one]
    · simp [madeCells, rowCells, hj]
  rw [Nat.mul_one] at e
  simpa [e] using this

set_option maxHeartbeats 1000000 in
theorem turned_any (x y z : Int) (w : World) :
    Calls Try.prog 85 #[.agg #[.int .i64 x, .int .i64 y, .int .i64 z]] w fun e w' => e = .returned (.agg #[.int .i64 y, .int .i64 x, .int .i64 z]) ∧ Below w.heap.size w w' := by
  go_enter Try.func85, Try.ntmps85
  go_wp2_with fail
  refine bodyPost_ret (results_cell_row rfl _ _ (w.heap.size + 1) 97 #[.int .i64 y, .int .i64 x, .int .i64 z] (0, 0) _ rfl ?_ Try.underlying97 rfl (by kernel_rfl)) rfl ⟨rfl, ?_⟩
  · exact heap_alloc2_new w _ _
  · exact ((Below.refl _ w).alloc (Nat.le_refl _) _).alloc (by simp) _

end Go.Proofs.Ytkkholagmjcgiaa
