/- Arrays of forty small integers. -/
import Derived.Test.YthbhengcinkepaaTri
import Derived.Laws.Rows
import Derived.Deep.MidRow
import Derived.Test.YthbhengcinkepaaBoxes
namespace Go.Proofs.Ythbhengcinkepaa
open Go.RowKit

/-- The cells of an array of forty small integers. -/
def lstP (f : Nat → Nat) : List Value := (List.range 40).map fun i => .int .i8 (f i : Nat)
abbrev arrP (f : Nat → Nat) : Array Value := (lstP f).toArray
theorem lstP_len (f : Nat → Nat) : (lstP f).length = 40 := by simp [lstP]
theorem arrP_size (f : Nat → Nat) : (arrP f).size = 40 := by simp [lstP]
theorem lstP_get (f : Nat → Nat) {i : Nat} (h : i < 40) : (lstP f)[i]? = some (.int .i8 (f i : Nat)) := by
  unfold lstP
  simp [h]
theorem arrP_get (f : Nat → Nat) {i : Nat} (h : i < 40) : (arrP f)[i]? = some (.int .i8 (f i : Nat)) := by
  rw [List.getElem?_toArray, lstP_get f h]
theorem lstP_at (f : Nat → Nat) (i : Nat) (h : i < (lstP f).length) : (lstP f)[i]'h = .int .i8 (f i : Nat) := by
  simp [lstP]
theorem lstP_put (f : Nat → Nat) (i : Nat) (x : Nat) : (lstP f).set i (.int .i8 (x : Nat)) = lstP (fun j => if j = i then x else f j) := by
  apply List.ext_getElem (by simp [lstP])
  intro j h1 h2
  rw [List.getElem_set, lstP_at, lstP_at]
  by_cases e : i = j
  · subst e; simp
  · rw [if_neg e, if_neg (Ne.symm e)]
theorem arrP_put (f : Nat → Nat) (i : Nat) (x : Nat) : (arrP f).setIfInBounds i (.int .i8 (x : Nat)) = arrP (fun j => if j = i then x else f j) := by
  rw [List.setIfInBounds_toArray, lstP_put]
theorem lstP_alike {f g : Nat → Nat} (h : ∀ i, i < 40 → f i = g i) : lstP f = lstP g := by
  apply List.ext_getElem (by simp [lstP])
  intro j h1 h2
  rw [lstP_len] at h1
  rw [lstP_at, lstP_at, h j h1]
/-- A block that holds such an array, as a range. -/
theorem Box.rangeP {w : World} {b : Nat} {t : TypeId} {f : Nat → Nat} (h : Box w b t (arrP f)) : w.rangeAt b 0 (lstP f) := fun j v hv => by
  rw [Nat.zero_add, h.cell j, List.getElem?_toArray]
  exact hv

/-- A loop that leaves with false at the first thing that isn't so. -/
theorem forIn_all {P : Program} {w : World} (b : Nat → Bool) (G : Nat → Option Bool × Unit → Sem (ForInStep (Option Bool × Unit))) :
    ∀ n i, (∀ j, i ≤ j → j < i + n → (G j (none, ())).run P w = .ok (if b j then .yield (none, ()) else .done (some false, ())) w) →
      (forIn (List.range' i n) ((none, ()) : Option Bool × Unit) G).run P w = .ok (if (List.range' i n).all b then (none, ()) else (some false, ())) w
  | 0, i, _ => by simp [List.range'_zero]
  | n + 1, i, h => by
    rw [List.range'_succ, List.forIn_cons, Sem.run_bind, h i (Nat.le_refl _) (by omega), Result.andThen_ok, List.all_cons]
    cases hb : b i with
    | false => simp
    | true =>
      simp only [if_true, Bool.true_and]
      exact forIn_all b G n (i + 1) (fun j h1 h2 => h j (by omega) (by omega))
/-- Whether two arrays are the same. -/
def sameB (f g : Nat → Nat) : Bool := (List.range' 0 40).all fun i => f i == g i
theorem eqP (f g : Nat → Nat) (w : World) : (Op.equalIn 10000 188 (.agg (arrP f)) (.agg (arrP g))).run Try.prog w = .ok (sameB f g) w := by
  have u3 := Try.underlying186
  have ag := Try.isAgg186
  have z3 := Try.sizeOf186
  rw [show (10000 : Nat) = 9999 + 1 from rfl, Op.equalIn]
  simp only [Sem.run_bind, run_underlying Try.underlying188, Result.andThen_ok]
  simp only [Std.Legacy.Range.forIn_eq_forIn_range', Std.Legacy.Range.size, Nat.sub_zero, Nat.add_sub_cancel, Nat.div_one]
  go_simp
  rw [forIn_all (fun i => f i == g i)]
  · show _ = Result.ok ((List.range' 0 40).all fun i => f i == g i) w
    obtain ⟨t, ht⟩ : ∃ t, (List.range' 0 40).all (fun i => f i == g i) = t := ⟨_, rfl⟩
    rw [ht]
    cases t <;> go_simp
  · intro j _ hj
    have h1 := lstP_get f (show j < 40 by omega)
    have h2 := lstP_get g (show j < 40 by omega)
    go_simp
    by_cases e : f j = g j
    · rw [if_pos (by rw [e]), if_pos e]
    · rw [if_neg (by omega), if_neg e]
theorem sameB_true {f g : Nat → Nat} : sameB f g = true ↔ ∀ i, i < 40 → f i = g i := by
  unfold sameB
  simp
theorem load40 (f : Nat → Nat) (g : Nat) (w : World) (t : TypeId) (h : w.heap[g]? = some (.cells (arrP f) t (0, 0))) : (loadVar 188 ⟨g, 0, none⟩).run Try.prog w = .ok (.agg (arrP f)) w :=
  run_loadVar_row w g t _ _ _ _ h Try.underlying188 rfl (by rw [arrP_size]; kernel_rfl)
end Go.Proofs.Ythbhengcinkepaa
