/- The ways of dice by rows of numbers, as plain lists: each number of the row before is added, for each side, so much further on. -/
import Derived.Test.YtkkholagmjcgiaaResults
namespace Go.Proofs.Ytkkholagmjcgiaa
open Go.RowKit

/-- The greatest side of a die, and the greatest sum of some dice. -/
def lastN (d : List Int) : Nat := (d.getD (d.length - 1) 0).toNat
def maxW (ds : List (List Int)) : Nat := (ds.map lastN).sum
theorem maxW_succ {ds : List (List Int)} {k : Nat} {d : List Int} (h : ds[k]? = some d) : maxW (ds.take (k + 1)) = maxW (ds.take k) + lastN d := by
  have hk := List.getElem?_eq_some_iff.1 h
  unfold maxW
  rw [List.take_succ_eq_append_getElem hk.1, hk.2, List.map_append, List.sum_append]
  simp
theorem die_last {d : List Int} (h : IsDie d) : d.getD (d.length - 1) 0 = (lastN d : Int) ∧ lastN d ≤ 60 ∧ ∀ x ∈ d, 0 ≤ x ∧ x ≤ (lastN d : Int) := by
  have hn := h.ne
  have hg : d.getD (d.length - 1) 0 = d[d.length - 1] := by simp [List.getD, show d.length - 1 < d.length by omega]
  have h1 := h.ok.2 d[d.length - 1] (List.getElem_mem _)
  have e : d.getD (d.length - 1) 0 = (lastN d : Int) := by
    unfold lastN
    rw [hg]
    omega
  refine ⟨e, by rw [hg] at e; omega, fun x hx => ⟨(h.ok.2 x hx).1, ?_⟩⟩
  rw [← e]
  obtain ⟨i, hi⟩ := List.mem_iff_getElem?.1 hx
  have hil : i < d.length := (List.getElem?_eq_some_iff.1 hi).1
  have e2 : d.getD i 0 = x := by simp [List.getD, hi]
  rw [← e2]
  exact sortTo_le h.sorted (d.length - 1) i (by omega) (Nat.le_refl _)

/-- What the sums s with the sides of a list add at y. -/
def putS (f : Int → Int) (d : List Int) (s y : Int) : Int := (d.map fun x => if s + x = y then f s else 0).sum
def accS (f : Int → Int) (d : List Int) (n : Nat) (y : Int) : Int := ((List.range n).map fun s : Nat => putS f d s y).sum
theorem putS_zero (f : Int → Int) (d : List Int) (s y : Int) : putS f (d.take 0) s y = 0 := by simp [putS]
theorem putS_succ {f : Int → Int} {d : List Int} {k : Nat} {x : Int} (h : d[k]? = some x) (s y : Int) : putS f (d.take (k + 1)) s y = putS f (d.take k) s y + if s + x = y then f s else 0 := by
  have hk := List.getElem?_eq_some_iff.1 h
  unfold putS
  rw [List.take_succ_eq_append_getElem hk.1, hk.2, List.map_append, List.sum_append]
  simp
theorem accS_zero (f : Int → Int) (d : List Int) (y : Int) : accS f d 0 y = 0 := by simp [accS]
theorem accS_succ (f : Int → Int) (d : List Int) (n : Nat) (y : Int) : accS f d (n + 1) y = accS f d n y + putS f d n y := by
  unfold accS
  rw [List.range_succ, List.map_append, List.sum_append]
  simp
theorem putS_in {f : Int → Int} {M : Int} (hf : ∀ y, 0 ≤ f y ∧ f y ≤ M) (s y : Int) : ∀ d : List Int, 0 ≤ putS f d s y ∧ putS f d s y ≤ d.length * M
  | [] => by simp [putS]
  | x :: r => by
    have ih := putS_in hf s y r
    have h := hf s
    unfold putS at ih ⊢
    rw [List.map_cons, List.sum_cons, List.length_cons]
    have e : ((r.length + 1 : Nat) : Int) * M = r.length * M + M := by rw [Int.natCast_add, Int.add_mul]; simp
    rw [e]
    split <;> omega
theorem accS_in {f : Int → Int} {M : Int} (hf : ∀ y, 0 ≤ f y ∧ f y ≤ M) (d : List Int) (y : Int) : ∀ n : Nat, 0 ≤ accS f d n y ∧ accS f d n y ≤ n * (d.length * M)
  | 0 => by simp [accS]
  | n + 1 => by
    have ih := accS_in hf d y n
    have h := putS_in hf n y d
    rw [accS_succ]
    have e : ((n + 1 : Nat) : Int) * (d.length * M) = n * (d.length * M) + d.length * M := by rw [Int.natCast_add, Int.add_mul]; simp
    rw [e]
    omega

theorem one_hit (f : Int → Int) (x y : Int) : ∀ n : Nat, ((List.range n).map fun s : Nat => if (s : Int) + x = y then f s else 0).sum = if 0 ≤ y - x ∧ y - x < n then f (y - x) else 0
  | 0 => by
    rw [if_neg (by omega)]
    rfl
  | n + 1 => by
    rw [List.range_succ, List.map_append, List.sum_append, one_hit f x y n]
    simp only [List.map_singleton, List.sum_singleton]
    by_cases h : (n : Int) + x = y
    · have e : y - x = (n : Int) := by omega
      rw [if_pos h, e, if_neg (by omega), if_pos (by omega), Int.zero_add]
    · rw [if_neg h, Int.add_zero]
      by_cases h2 : 0 ≤ y - x ∧ y - x < n
      · rw [if_pos h2, if_pos (by omega)]
      · rw [if_neg h2, if_neg (by omega)]
theorem conv_sum (f : Int → Int) (d : List Int) (y : Int) : conv f d y = (d.map fun x => f (y - x)).sum := by
  have h : ∀ (d : List Int) (i : Nat), cv f (fun _ _ => false) d i y = (d.map fun x => f (y - x)).sum := by
    intro d
    induction d with
    | nil => intro i; simp [cv]
    | cons x r ih => intro i; simp [cv, ih]
  exact h d 0
theorem sum_add {α : Type} (p q : α → Int) : ∀ l : List α, (l.map fun s => p s + q s).sum = (l.map p).sum + (l.map q).sum
  | [] => rfl
  | x :: r => by
    simp only [List.map_cons, List.sum_cons, sum_add p q r]
    omega
theorem accS_all {f : Int → Int} {n : Nat} (hf : ∀ y, f y ≠ 0 → 0 ≤ y ∧ y < n) (y : Int) : ∀ d : List Int, accS f d n y = conv f d y := by
  intro d
  rw [conv_sum]
  induction d with
  | nil =>
    have h0 : ∀ l : List Nat, (l.map fun s : Nat => putS f [] s y).sum = 0 := fun l => by
      induction l with
      | nil => rfl
      | cons a r ih => rw [List.map_cons, List.sum_cons, ih]; rfl
    exact h0 _
  | cons x r ih =>
    have e : accS f (x :: r) n y = ((List.range n).map fun s : Nat => if (s : Int) + x = y then f s else 0).sum + accS f r n y := by
      unfold accS
      rw [← sum_add]
      rfl
    rw [e, ih, one_hit, List.map_cons, List.sum_cons]
    congr 1
    split
    · rfl
    · rename_i h
      rcases Int.decEq (f (y - x)) 0 with h2 | h2
      · exact absurd (hf _ h2) h
      · exact h2.symm
/-- No sum is above the greatest. -/
theorem waysF_max (ds : List (List Int)) (hd : ∀ d ∈ ds, IsDie d) : ∀ k, k ≤ ds.length → ∀ y, waysF (ds.take k) y ≠ 0 → 0 ≤ y ∧ y < ((maxW (ds.take k) + 1 : Nat) : Int)
  | 0, _, y, h => by
    have e : y = 0 := by
      by_cases e : y = 0
      · exact e
      · exact absurd (by simp [waysF, one0, e]) h
    subst e
    simp [maxW]
  | k + 1, hk, y, h => by
    have hk2 : k < ds.length := by omega
    have hget := List.getElem?_eq_getElem hk2
    rw [waysF_snoc ds k _ hget, conv_sum] at h
    have hdie := die_last (hd _ (List.getElem_mem hk2))
    obtain ⟨x, hx, hfx⟩ : ∃ x ∈ ds[k], waysF (ds.take k) (y - x) ≠ 0 := by
      apply Classical.byContradiction
      intro hno
      apply h
      have : ∀ l : List Int, (∀ x ∈ l, waysF (ds.take k) (y - x) = 0) → (l.map fun x => waysF (ds.take k) (y - x)).sum = 0 := by
        intro l hl
        induction l with
        | nil => rfl
        | cons a r ih =>
          rw [List.map_cons, List.sum_cons, hl a (by simp), ih fun x hx => hl x (by simp [hx])]
          rfl
      exact this _ fun x hx => Classical.byContradiction fun hne => hno ⟨x, hx, hne⟩
    have ih := waysF_max ds hd k (by omega) _ hfx
    have hxb := hdie.2.2 x hx
    rw [maxW_succ hget]
    omega

end Go.Proofs.Ytkkholagmjcgiaa
