/- Dice made of any numbers, as plain lists: each number's remainder is put into its place. -/
import Derived.Test.YtkkholagmjcgiaaRDie
import Derived.Test.YtkkholagmjcgiaaResults
namespace Go.Proofs.Ytkkholagmjcgiaa
open Go.RowKit

/-- The remainder of a number, read without a sign. -/
def remU (y most : Int) : Int := IntKind.u64.wrap y % (most + 1)
theorem remU_in (y : Int) {most : Int} (h : 0 ≤ most) : 0 ≤ remU y most ∧ remU y most ≤ most := by
  unfold remU
  have h1 := Int.emod_nonneg (IntKind.u64.wrap y) (show most + 1 ≠ 0 by omega)
  have h2 := Int.emod_lt_of_pos (IntKind.u64.wrap y) (show 0 < most + 1 by omega)
  omega

/-- The place of the first number above x. -/
def insAt (x : Int) (out : List Int) : Nat := out.findIdx fun y => decide (x < y)
def insL (x : Int) (out : List Int) : List Int := out.take (insAt x out) ++ x :: out.drop (insAt x out)
theorem insAt_le (x : Int) (out : List Int) : insAt x out ≤ out.length := List.findIdx_le_length
theorem insAt_of {x : Int} {out : List Int} {k : Nat} (hk : k ≤ out.length) (h : ∀ j, j < k → out.getD j 0 ≤ x) (he : k = out.length ∨ x < out.getD k 0) : k = insAt x out := by
  have hg : ∀ j (hj : j < out.length), out.getD j 0 = out[j] := fun j hj => by simp [List.getD, hj]
  symm
  unfold insAt
  rcases Nat.lt_or_ge k out.length with hlt | hge
  · rw [List.findIdx_eq hlt]
    rw [hg k hlt] at he
    refine ⟨decide_eq_true (by omega), fun j hj => decide_eq_false ?_⟩
    have := h j hj
    rw [hg j (by omega)] at this
    omega
  · obtain rfl : k = out.length := by omega
    rw [List.findIdx_eq_length]
    intro y hy
    obtain ⟨j, hj, rfl⟩ := List.mem_iff_getElem.1 hy
    have := h j hj
    rw [hg j hj] at this
    exact decide_eq_false (by omega)
theorem insL_length (x : Int) (out : List Int) : (insL x out).length = out.length + 1 := by
  have := insAt_le x out
  simp [insL]
  omega
theorem insL_mem {x y : Int} {out : List Int} (h : y ∈ insL x out) : y = x ∨ y ∈ out := by
  unfold insL at h
  rw [List.mem_append, List.mem_cons] at h
  rcases h with h | h | h
  · exact .inr (List.mem_of_mem_take h)
  · exact .inl h
  · exact .inr (List.mem_of_mem_drop h)
theorem insL_sorted {x : Int} {out : List Int} (h : out.Pairwise (· ≤ ·)) : (insL x out).Pairwise (· ≤ ·) := by
  have h1 : ∀ a ∈ out.take (insAt x out), a ≤ x := fun a ha => by
    obtain ⟨j, hj, rfl⟩ := List.mem_iff_getElem.1 ha
    rw [List.length_take] at hj
    rw [List.getElem_take]
    have := List.not_of_lt_findIdx (p := fun y => decide (x < y)) (xs := out) (i := j) (by unfold insAt at hj; omega)
    simpa using this
  have h2 : ∀ b ∈ out.drop (insAt x out), x ≤ b := fun b hb => by
    obtain ⟨j, hj, rfl⟩ := List.mem_iff_getElem.1 hb
    rw [List.length_drop] at hj
    rw [List.getElem_drop]
    have hlt : insAt x out < out.length := by omega
    have h3 : decide (x < out[insAt x out]) = true := List.findIdx_getElem (w := hlt)
    have h3 := of_decide_eq_true h3
    rcases Nat.eq_zero_or_pos j with h0 | h0
    · subst h0
      simp only [Nat.add_zero]
      omega
    · have := (List.pairwise_iff_getElem.1 h) (insAt x out) (insAt x out + j) hlt (by omega) (by omega)
      omega
  unfold insL
  rw [List.pairwise_append]
  refine ⟨h.sublist (List.take_sublist _ _), ?_, fun a ha b hb => ?_⟩
  · rw [List.pairwise_cons]
    exact ⟨h2, h.sublist (List.drop_sublist _ _)⟩
  · rw [List.mem_cons] at hb
    rcases hb with rfl | hb
    · exact h1 a ha
    · exact Int.le_trans (h1 a ha) (h2 b hb)

/-- The first k numbers, put in order. -/
def madeTo (l : List Int) (most : Int) (k : Nat) : List Int := (l.take k).foldl (fun out y => insL (remU y most) out) []
theorem madeTo_zero (l : List Int) (most : Int) : madeTo l most 0 = [] := by simp [madeTo]
theorem madeTo_succ {l : List Int} {most y : Int} {k : Nat} (h : l[k]? = some y) : madeTo l most (k + 1) = insL (remU y most) (madeTo l most k) := by
  have hk := List.getElem?_eq_some_iff.1 h
  unfold madeTo
  rw [List.take_succ_eq_append_getElem hk.1, hk.2, List.foldl_append]
  rfl
theorem madeTo_facts (l : List Int) {most : Int} (hm : 0 ≤ most) : ∀ k, k ≤ l.length → (madeTo l most k).length = k ∧ (madeTo l most k).Pairwise (· ≤ ·) ∧ ∀ x ∈ madeTo l most k, 0 ≤ x ∧ x ≤ most
  | 0, _ => by rw [madeTo_zero]; simp
  | k + 1, hk => by
    obtain ⟨h1, h2, h3⟩ := madeTo_facts l hm k (by omega)
    rw [madeTo_succ (List.getElem?_eq_getElem (by omega))]
    refine ⟨by rw [insL_length, h1], insL_sorted h2, fun x hx => ?_⟩
    rcases insL_mem hx with rfl | hx
    · exact remU_in _ hm
    · exact h3 x hx

/-- The die that is made of any numbers. -/
def madeL (l : List Int) (most : Int) : List Int := if l.length = 0 then [0] else madeTo l most (min l.length 8)
theorem sortB_of {d : List Int} (h : d.Pairwise (· ≤ ·)) : sortB d = true := by
  unfold sortB
  rw [sortTo_iff]
  intro j hj
  have h1 : d.getD j 0 = d[j]'(by omega) := by simp [List.getD, show j < d.length by omega]
  have h2 : d.getD (j + 1) 0 = d[j + 1]'(by omega) := by simp [List.getD, show j + 1 < d.length by omega]
  rw [h1, h2]
  exact (List.pairwise_iff_getElem.1 h) j (j + 1) (by omega) (by omega) (by omega)
theorem madeL_facts (l : List Int) {most : Int} (hm : 0 ≤ most) : 1 ≤ (madeL l most).length ∧ (madeL l most).length ≤ 8 ∧ (madeL l most).Pairwise (· ≤ ·) ∧ ∀ x ∈ madeL l most, 0 ≤ x ∧ x ≤ most := by
  unfold madeL
  split
  · refine ⟨by simp, by simp, by simp, fun x hx => ?_⟩
    simp at hx
    omega
  · obtain ⟨h1, h2, h3⟩ := madeTo_facts l hm (min l.length 8) (by omega)
    exact ⟨by omega, by omega, h2, h3⟩
theorem madeL_die (l : List Int) {most : Int} (hm : 0 ≤ most) (h60 : most ≤ 60) : IsDie (madeL l most) := by
  obtain ⟨h1, h2, h3, h4⟩ := madeL_facts l hm
  exact ⟨⟨h2, fun x hx => by have := h4 x hx; omega⟩, h1, sortB_of h3⟩

/-- The dice that are made of any numbers. -/
def someL (l : List (List Int)) (many : Nat) (most : Int) : List (List Int) := if (l.take many).length = 0 then [[0]] else (l.take many).map fun d => madeL d most
theorem someL_dice (l : List (List Int)) {many : Nat} {most : Int} (hm : 0 ≤ most) (h60 : most ≤ 60) (h6 : many ≤ 6) : AreDice (someL l many most) := by
  unfold someL
  split
  · exact ⟨by simp, by simp, fun d hd => by
      rw [List.mem_singleton] at hd
      subst hd
      exact ⟨⟨by simp, fun x hx => by simp at hx; omega⟩, by simp, by decide⟩⟩
  · refine ⟨by rw [List.length_map]; omega, by rw [List.length_map, List.length_take]; omega, fun d hd => ?_⟩
    obtain ⟨x, _, rfl⟩ := List.mem_map.1 hd
    exact madeL_die x hm h60

end Go.Proofs.Ytkkholagmjcgiaa
